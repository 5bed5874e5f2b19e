/- The walk of Follow. -/
import Derived.Test.YteffkcnlipdgaaaDoorWb
import Derived.Test.YteffkcnlipdgaaaDoorVg
import Derived.Test.YteffkcnlipdgaaaDoorIx
namespace Go.Proofs.YteffkcnlipdgaaaDoor
open Go.RowKit
set_option linter.unusedVariables false
set_option linter.unusedSimpArgs false

/-- What Follow answers. -/
def FolR (r : Option Ed) (e : Ending) : Prop := match r with
  | none => e = .returned (.tuple #[.agg #[.int .i64 0, .int .i64 0, .int .i64 0], .int .i64 5])
  | some t => e = .returned (.tuple #[.agg #[.int .i64 t.1, .int .i64 t.2.1, .int .i64 t.2.2], .int .i64 0])
theorem index_L (w : World) : Calls Tryd.prog 32 #[.string ⟨#[76, 82]⟩, .int .u8 76] w fun e w' => e = .returned (.int .i64 0) ∧ w' = w :=
  (Tryd.strings_IndexByte ⟨#[76, 82]⟩ 76 w).mono fun e w' h => ⟨h.1.trans rfl, h.2⟩
theorem index_R (w : World) : Calls Tryd.prog 32 #[.string ⟨#[76, 82]⟩, .int .u8 82] w fun e w' => e = .returned (.int .i64 1) ∧ w' = w :=
  (Tryd.strings_IndexByte ⟨#[76, 82]⟩ 82 w).mono fun e w' h => ⟨h.1.trans rfl, h.2⟩
set_option maxHeartbeats 2000000 in
theorem Follow_no (s : ByteArray) (hs : s.size ≤ maxLen) (h : pathB s = false) (w : World) :
    Calls Tryd.prog 15 #[.string s] w fun e w' => e = .returned (.tuple #[.agg #[.int .i64 0, .int .i64 0, .int .i64 0], .int .i64 2]) ∧ Keeps w w' := by
  have cP := fun W => isPath_c s hs W
  rw [h] at cP
  clear h
  have hX := At.new w 22 #[.int .i64 0, .int .i64 0, .int .i64 0]
  have hk : Keeps w (w.alloc (.cells #[.int .i64 0, .int .i64 0, .int .i64 0] 22)) := Keeps.alloc (Below.refl _ _) _
  go_enter Tryd.func15, Tryd.ntmps15
  go_wp2_with (first
    | (go_at_call 30; refine (cP _).mono ?_; rintro e w1 ⟨rfl, h1⟩; have hX1 := hX.later h1)
    | (refine wpList_store_row rfl 22 _ _ rfl w.heap.size #[.int .i64 0, .int .i64 0, .int .i64 0] rfl rfl 22 #[.int .i64 0, .int .i64 0, .int .i64 0] hX1 (size3 _ _ _) rfl (oneT _ _ _) ?_))
  have h3 := hX1.row #[.int .i64 0, .int .i64 0, .int .i64 0]
  exact bodyPost_ret (v := .tuple #[.agg #[.int .i64 0, .int .i64 0, .int .i64 0], .int .i64 2]) (results_row_tmp Tryd.results15 _ _ w.heap.size _ _ _ rfl h3 Tryd.underlying22 rfl (size3 _ _ _)) rfl ⟨rfl, below_row (Keeps.next hk h1) (by omega) _⟩
set_option maxHeartbeats 8000000 in
set_option maxRecDepth 20000 in
theorem Follow_c (s : ByteArray) (h : pathB s = true) (w : World) :
    Calls Tryd.prog 15 #[.string s] w fun e w' => FolR (folF (1, 2, 5) s.data.toList) e ∧ Keeps w w' := by
  have h60 : s.size ≤ 60 := by unfold pathB at h; rw [Bool.and_eq_true] at h; exact of_decide_eq_true h.1
  have hw : (s.data.toList.all fun c => [76, 82].contains c) = true := by unfold pathB at h; rw [Bool.and_eq_true] at h; exact h.2
  have cP := fun W => isPath_c s (by unfold maxLen; omega) W
  rw [h] at cP
  clear h
  have hX := At.new w 22 #[.int .i64 0, .int .i64 0, .int .i64 0]
  have hk : Keeps w (w.alloc (.cells #[.int .i64 0, .int .i64 0, .int .i64 0] 22)) := Keeps.alloc (Below.refl _ _) _
  go_enter Tryd.func15, Tryd.ntmps15
  go_wp2_with (first
    | (go_at_call 30; refine (cP _).mono ?_; rintro e w1 ⟨rfl, h1⟩; have hX1 := hX.later h1; have k1 := Keeps.next hk h1)
    | (go_at_call 31; refine (start_c _).mono ?_; rintro e w2 ⟨rfl, h2⟩; have hA0 := (hX1.later h2).alloc (.cells #[.int .i64 1, .int .i64 2, .int .i64 5] 52); have hB0 := At.new w2 52 #[.int .i64 1, .int .i64 2, .int .i64 5]; have hk1 : Keeps w (w2.alloc (.cells #[.int .i64 1, .int .i64 2, .int .i64 5] 52)) := Keeps.alloc (Keeps.next k1 h2) _; have hgl : w.heap.size < w2.heap.size := by (have a1 := h1.size; have a2 := h2.size; simp at a1; omega)))
  generalize w2.alloc (.cells #[.int .i64 1, .int .i64 2, .int .i64 5] 52) = Y at *
  generalize w2.heap.size = gB at *
  clear hX hk hX1 k1 h1 h2 cP
  go_loopw [13] (fun s13 wr => ∃ (k : Nat) (t : Ed), k ≤ s.size ∧ s13 = .int .i64 k ∧ TriT t ∧ folF t (s.data.toList.drop k) = folF (1, 2, 5) s.data.toList ∧ At wr gB 52 (ev t) ∧ Keeps w wr ∧ At wr w.heap.size 22 #[.int .i64 0, .int .i64 0, .int .i64 0]) (fun s13 _ => s.size - (intOf s13).toNat)
  case atStart => exact ⟨0, (1, 2, 5), Nat.zero_le _, rfl, (trB_iff _ _ _).1 (by decide), rfl, hB0, hk1, hA0⟩
  case round =>
    obtain ⟨k, t, hk, rfl, ht, hf, hat, hkr, hA⟩ := hrel
    clear hB0 hk1 hA0
    by_cases hlt : k < s.size
    · have hkI : (k : Int) < s.size := by omega
      have hdr : s.data.toList.drop k = s[k] :: s.data.toList.drop (k + 1) := by
        rw [List.drop_eq_getElem_cons (by simpa using hlt)]; rfl
      have hq : s[k]? = some s[k] := by simp [hlt]
      have hab := path_at s k hlt hw
      rw [hdr, folF] at hf
      obtain ⟨a, b, c⟩ := t
      have cX := fun W => exchanges_c a b c W
      have hgB : w.heap.size ≤ gB := by omega
      rcases hab with hc | hc
      · rw [hc] at hf
        have hcI : ((s[k].toNat : Nat) : Int) = 76 := by rw [hc]; rfl
        have hnx : nxtT (a, b, c) 76 = leftT (a, b, c) := by rfl
        rw [hnx] at hf
        have cN := fun W => (ex_calls a b c ht W).1
        have ht2 := TriT.left ht
        generalize leftT (a, b, c) = o at *
        obtain ⟨o1, o2, o3⟩ := o
        simp only at cN hf ht2
        have Hc := Lib.hid hc
        have HcI := Lib.hid hcI
        have cF := fun W => isFull_c o1 o2 o3 W
        clear hnx hc hdr hcI
        go_upto_region 7 with fail
        have hcI := HcI.out
        refine region_any_inv (G := Nat × Nat) (f := ?ff0) (fun g => [.agg #[.int .i64 a, .int .i64 b, .int .i64 c], .slice (some ⟨g.1, 0, none⟩) 3 3, .string s, .int .i64 k, .int .u8 76, .int .i64 0, .pointer (some ⟨g.2, 0, none⟩), .func (.func 35) #[.agg #[.int .i64 a, .int .i64 b, .int .i64 c]] #[], .agg #[.int .i64 o1, .int .i64 o2, .int .i64 o3], undef])
          (fun g L w' => At w' gB 52 (bif L 9 then #[.int .i64 o1, .int .i64 o2, .int .i64 o3] else #[.int .i64 a, .int .i64 b, .int .i64 c]) ∧ At w' w.heap.size 22 #[.int .i64 0, .int .i64 0, .int .i64 0] ∧ Keeps w w' ∧ (L 1 = true → At w' g.1 55 #[.func (.func 35) #[.agg #[.int .i64 a, .int .i64 b, .int .i64 c]] #[], .func (.func 36) #[.agg #[.int .i64 a, .int .i64 b, .int .i64 c]] #[], .func (.func 34) #[.agg #[.int .i64 a, .int .i64 b, .int .i64 c]] #[]]) ∧ (L 6 = true → g.2 = g.1)) (0, 0) (fun _ => ?hff0) (by kernel_rfl) (by kernel_rfl) ⟨hat.drew, hA.drew, keeps_dr hkr, (fun h => by cases h), (fun h => by cases h)⟩ ?stepsf0 ?finf0
        case hff0 =>
          simp only [fill, List.toList_toArray, List.zip_cons_cons, List.zip_nil_left, List.zip_nil_right, List.foldl_cons, List.foldl_nil, Act.put, List.setIfInBounds_toArray, List.set_cons_succ, List.set_cons_zero]
          exact rfl
        case stepsf0 =>
          refine StepsU.cons rfl (fun g L w' hL hr hc hF => ?_) ?_
          · have A0 : At w' gB 52 (bif L 9 then #[.int .i64 o1, .int .i64 o2, .int .i64 o3] else #[.int .i64 a, .int .i64 b, .int .i64 c]) := hF.1
            have A1 : At w' w.heap.size 22 #[.int .i64 0, .int .i64 0, .int .i64 0] := hF.2.1
            have k3 : Keeps w w' := hF.2.2.1
            have AF : L 1 = true → At w' g.1 55 #[.func (.func 35) #[.agg #[.int .i64 a, .int .i64 b, .int .i64 c]] #[], .func (.func 36) #[.agg #[.int .i64 a, .int .i64 b, .int .i64 c]] #[], .func (.func 34) #[.agg #[.int .i64 a, .int .i64 b, .int .i64 c]] #[]] := hF.2.2.2.1
            have AG : L 6 = true → g.2 = g.1 := hF.2.2.2.2
            have hL9 : L 9 = false := hc.not 9 0 rfl rfl hL
            rw [hL9, cond_false] at A0
            have p1 := (row_six A0).1
            have p2 := (row_six A0).2.1
            have p3 := (row_six A0).2.2.1
            have AG9 := Lib.hid AG
            clear AG
            clear hF hc hr hat hA hkr
            clear cX cN
            refine StepU.go rfl (fun K hK => ?_)
            go_simp
            exact hK g _ ⟨by rw [show add L 0 9 = L 9 from rfl, hL9]; exact A0, A1, k3, AF, AG9.out⟩
          refine StepsU.cons rfl (fun g L w' hL hr hc hF => ?_) ?_
          · have A0 : At w' gB 52 (bif L 9 then #[.int .i64 o1, .int .i64 o2, .int .i64 o3] else #[.int .i64 a, .int .i64 b, .int .i64 c]) := hF.1
            have A1 : At w' w.heap.size 22 #[.int .i64 0, .int .i64 0, .int .i64 0] := hF.2.1
            have k3 : Keeps w w' := hF.2.2.1
            have AF : L 1 = true → At w' g.1 55 #[.func (.func 35) #[.agg #[.int .i64 a, .int .i64 b, .int .i64 c]] #[], .func (.func 36) #[.agg #[.int .i64 a, .int .i64 b, .int .i64 c]] #[], .func (.func 34) #[.agg #[.int .i64 a, .int .i64 b, .int .i64 c]] #[]] := hF.2.2.2.1
            have AG : L 6 = true → g.2 = g.1 := hF.2.2.2.2
            have n6 := hc.not 6 1 rfl rfl hL
            have AG9 := Lib.hid AG
            clear AG
            clear hF hc hr hat hA hkr
            have C9 := Lib.hid (cX w')
            clear cX cN
            refine StepU.go rfl (fun K hK => ?_)
            go_simp
            refine C9.out.mono ?_
            rintro e w2 ⟨g2, rfl, hf2, hg2, b3⟩
            exact hK (g2, g.2) _ ⟨A0.later b3, A1.later b3, Keeps.next k3 b3, (fun _ => hf2), (fun h6 => by rw [show add L 1 6 = L 6 from rfl, n6] at h6; cases h6)⟩
          refine StepsU.cons rfl (fun g L w' hL hr hc hF => ?_) ?_
          · have A0 : At w' gB 52 (bif L 9 then #[.int .i64 o1, .int .i64 o2, .int .i64 o3] else #[.int .i64 a, .int .i64 b, .int .i64 c]) := hF.1
            have A1 : At w' w.heap.size 22 #[.int .i64 0, .int .i64 0, .int .i64 0] := hF.2.1
            have k3 : Keeps w w' := hF.2.2.1
            have AF : L 1 = true → At w' g.1 55 #[.func (.func 35) #[.agg #[.int .i64 a, .int .i64 b, .int .i64 c]] #[], .func (.func 36) #[.agg #[.int .i64 a, .int .i64 b, .int .i64 c]] #[], .func (.func 34) #[.agg #[.int .i64 a, .int .i64 b, .int .i64 c]] #[]] := hF.2.2.2.1
            have AG : L 6 = true → g.2 = g.1 := hF.2.2.2.2
            have AG9 := Lib.hid AG
            clear AG
            clear hF hc hr hat hA hkr
            clear cX cN
            refine StepU.go rfl (fun K hK => ?_)
            go_simp
            exact hK g _ ⟨A0, A1, k3, AF, AG9.out⟩
          refine StepsU.cons rfl (fun g L w' hL hr hc hF => ?_) ?_
          · have A0 : At w' gB 52 (bif L 9 then #[.int .i64 o1, .int .i64 o2, .int .i64 o3] else #[.int .i64 a, .int .i64 b, .int .i64 c]) := hF.1
            have A1 : At w' w.heap.size 22 #[.int .i64 0, .int .i64 0, .int .i64 0] := hF.2.1
            have k3 : Keeps w w' := hF.2.2.1
            have AF : L 1 = true → At w' g.1 55 #[.func (.func 35) #[.agg #[.int .i64 a, .int .i64 b, .int .i64 c]] #[], .func (.func 36) #[.agg #[.int .i64 a, .int .i64 b, .int .i64 c]] #[], .func (.func 34) #[.agg #[.int .i64 a, .int .i64 b, .int .i64 c]] #[]] := hF.2.2.2.1
            have AG : L 6 = true → g.2 = g.1 := hF.2.2.2.2
            have AG9 := Lib.hid AG
            clear AG
            clear hF hc hr hat hA hkr
            clear cX cN
            refine StepU.go rfl (fun K hK => ?_)
            go_simp
            exact hK g _ ⟨A0, A1, k3, AF, AG9.out⟩
          refine StepsU.cons rfl (fun g L w' hL hr hc hF => ?_) ?_
          · have A0 : At w' gB 52 (bif L 9 then #[.int .i64 o1, .int .i64 o2, .int .i64 o3] else #[.int .i64 a, .int .i64 b, .int .i64 c]) := hF.1
            have A1 : At w' w.heap.size 22 #[.int .i64 0, .int .i64 0, .int .i64 0] := hF.2.1
            have k3 : Keeps w w' := hF.2.2.1
            have AF : L 1 = true → At w' g.1 55 #[.func (.func 35) #[.agg #[.int .i64 a, .int .i64 b, .int .i64 c]] #[], .func (.func 36) #[.agg #[.int .i64 a, .int .i64 b, .int .i64 c]] #[], .func (.func 34) #[.agg #[.int .i64 a, .int .i64 b, .int .i64 c]] #[]] := hF.2.2.2.1
            have AG : L 6 = true → g.2 = g.1 := hF.2.2.2.2
            have AG9 := Lib.hid AG
            clear AG
            clear hF hc hr hat hA hkr
            clear cX cN
            refine StepU.go rfl (fun K hK => ?_)
            go_simp
            exact hK g _ ⟨A0, A1, k3, AF, AG9.out⟩
          refine StepsU.cons rfl (fun g L w' hL hr hc hF => ?_) ?_
          · have A0 : At w' gB 52 (bif L 9 then #[.int .i64 o1, .int .i64 o2, .int .i64 o3] else #[.int .i64 a, .int .i64 b, .int .i64 c]) := hF.1
            have A1 : At w' w.heap.size 22 #[.int .i64 0, .int .i64 0, .int .i64 0] := hF.2.1
            have k3 : Keeps w w' := hF.2.2.1
            have AF : L 1 = true → At w' g.1 55 #[.func (.func 35) #[.agg #[.int .i64 a, .int .i64 b, .int .i64 c]] #[], .func (.func 36) #[.agg #[.int .i64 a, .int .i64 b, .int .i64 c]] #[], .func (.func 34) #[.agg #[.int .i64 a, .int .i64 b, .int .i64 c]] #[]] := hF.2.2.2.1
            have AG : L 6 = true → g.2 = g.1 := hF.2.2.2.2
            have AG9 := Lib.hid AG
            clear AG
            clear hF hc hr hat hA hkr
            have C9 := Lib.hid (index_L w')
            clear cX cN
            refine StepU.go rfl (fun K hK => ?_)
            go_simp
            refine C9.out.mono ?_
            rintro e w2 ⟨rfl, rfl⟩
            exact hK g _ ⟨A0, A1, k3, AF, AG9.out⟩
          refine StepsU.cons rfl (fun g L w' hL hr hc hF => ?_) ?_
          · have A0 : At w' gB 52 (bif L 9 then #[.int .i64 o1, .int .i64 o2, .int .i64 o3] else #[.int .i64 a, .int .i64 b, .int .i64 c]) := hF.1
            have A1 : At w' w.heap.size 22 #[.int .i64 0, .int .i64 0, .int .i64 0] := hF.2.1
            have k3 : Keeps w w' := hF.2.2.1
            have AF : L 1 = true → At w' g.1 55 #[.func (.func 35) #[.agg #[.int .i64 a, .int .i64 b, .int .i64 c]] #[], .func (.func 36) #[.agg #[.int .i64 a, .int .i64 b, .int .i64 c]] #[], .func (.func 34) #[.agg #[.int .i64 a, .int .i64 b, .int .i64 c]] #[]] := hF.2.2.2.1
            have AG : L 6 = true → g.2 = g.1 := hF.2.2.2.2
            have AG9 := Lib.hid AG
            clear AG
            clear hF hc hr hat hA hkr
            clear cX cN
            refine StepU.go rfl (fun K hK => ?_)
            go_simp
            exact hK (g.1, g.1) _ ⟨A0, A1, k3, AF, fun _ => rfl⟩
          refine StepsU.cons rfl (fun g L w' hL hr hc hF => ?_) ?_
          · have A0 : At w' gB 52 (bif L 9 then #[.int .i64 o1, .int .i64 o2, .int .i64 o3] else #[.int .i64 a, .int .i64 b, .int .i64 c]) := hF.1
            have A1 : At w' w.heap.size 22 #[.int .i64 0, .int .i64 0, .int .i64 0] := hF.2.1
            have k3 : Keeps w w' := hF.2.2.1
            have AF : L 1 = true → At w' g.1 55 #[.func (.func 35) #[.agg #[.int .i64 a, .int .i64 b, .int .i64 c]] #[], .func (.func 36) #[.agg #[.int .i64 a, .int .i64 b, .int .i64 c]] #[], .func (.func 34) #[.agg #[.int .i64 a, .int .i64 b, .int .i64 c]] #[]] := hF.2.2.2.1
            have AG : L 6 = true → g.2 = g.1 := hF.2.2.2.2
            have h61 : L 6 = true := hr 6 rfl
            have hL1 : L 1 = true := by
              cases h : L 1
              · have h6 := hc.not 6 1 rfl rfl h
                rw [h61] at h6; cases h6
              · rfl
            have AFt := AF hL1
            have cf : w'.cell? ⟨g.2, 0, none⟩ = some (.func (.func 35) #[.agg #[.int .i64 a, .int .i64 b, .int .i64 c]] #[]) := by rw [AG h61]; exact (AFt.cell 0).trans rfl
            have AG9 := Lib.hid AG
            clear AG
            clear h61
            clear hF hc hr hat hA hkr
            clear cX cN
            refine StepU.go rfl (fun K hK => ?_)
            go_simp
            exact hK g _ ⟨A0, A1, k3, AF, AG9.out⟩
          refine StepsU.cons rfl (fun g L w' hL hr hc hF => ?_) ?_
          · have A0 : At w' gB 52 (bif L 9 then #[.int .i64 o1, .int .i64 o2, .int .i64 o3] else #[.int .i64 a, .int .i64 b, .int .i64 c]) := hF.1
            have A1 : At w' w.heap.size 22 #[.int .i64 0, .int .i64 0, .int .i64 0] := hF.2.1
            have k3 : Keeps w w' := hF.2.2.1
            have AF : L 1 = true → At w' g.1 55 #[.func (.func 35) #[.agg #[.int .i64 a, .int .i64 b, .int .i64 c]] #[], .func (.func 36) #[.agg #[.int .i64 a, .int .i64 b, .int .i64 c]] #[], .func (.func 34) #[.agg #[.int .i64 a, .int .i64 b, .int .i64 c]] #[]] := hF.2.2.2.1
            have AG : L 6 = true → g.2 = g.1 := hF.2.2.2.2
            have AG9 := Lib.hid AG
            clear AG
            clear hF hc hr hat hA hkr
            have C9 := Lib.hid (cN w')
            clear cX cN
            refine StepU.go rfl (fun K hK => ?_)
            go_simp
            refine C9.out.mono ?_
            rintro e w2 ⟨rfl, b3⟩
            exact hK g _ ⟨A0.later b3, A1.later b3, Keeps.next k3 b3, (fun h => (AF h).later b3), AG9.out⟩
          refine StepsU.cons rfl (fun g L w' hL hr hc hF => ?_) ?_
          · have A0 : At w' gB 52 (bif L 9 then #[.int .i64 o1, .int .i64 o2, .int .i64 o3] else #[.int .i64 a, .int .i64 b, .int .i64 c]) := hF.1
            have A1 : At w' w.heap.size 22 #[.int .i64 0, .int .i64 0, .int .i64 0] := hF.2.1
            have k3 : Keeps w w' := hF.2.2.1
            have AF : L 1 = true → At w' g.1 55 #[.func (.func 35) #[.agg #[.int .i64 a, .int .i64 b, .int .i64 c]] #[], .func (.func 36) #[.agg #[.int .i64 a, .int .i64 b, .int .i64 c]] #[], .func (.func 34) #[.agg #[.int .i64 a, .int .i64 b, .int .i64 c]] #[]] := hF.2.2.2.1
            have AG : L 6 = true → g.2 = g.1 := hF.2.2.2.2
            have h61 : L 6 = true := by
                  cases h : L 6
                  · have h7 := hc.not 7 6 rfl rfl h
                    have h8 := hc.not 8 7 rfl rfl h7
                    rw [hr 8 rfl] at h8; cases h8
                  · rfl
            have hL1 : L 1 = true := by
              cases h : L 1
              · have h6 := hc.not 6 1 rfl rfl h
                rw [h61] at h6; cases h6
              · rfl
            have AFt := AF hL1
            rw [hL, cond_false] at A0
            obtain ⟨r1, r2, r3, r4, r5, r6⟩ := row_six A0
            have hne : g.1 ≠ gB := by
              intro e
              rw [e] at AFt
              have h := A0.symm.trans AFt
              cases h
            have AG9 := Lib.hid AG
            clear AG
            clear h61
            clear hF hc hr hat hA hkr
            clear cX cN
            refine StepU.go rfl (fun K hK => ?_)
            go_simp
            exact hK g _ ⟨by rw [add_same, cond_true]; exact A0.three _ _ _, ((A1.far (by simp; omega) _).far (by simp; omega) _).far (by simp; omega) _, Below.setCell (Below.setCell (Below.setCell k3 hgB _) hgB _) hgB _, (fun _ => ((AFt.far hne _).far hne _).far hne _), AG9.out⟩
          exact StepsU.nil (by simp)
        case finf0 =>
        intro g L w5 hall hF
        have A0 : At w5 gB 52 (bif L 9 then #[.int .i64 o1, .int .i64 o2, .int .i64 o3] else #[.int .i64 a, .int .i64 b, .int .i64 c]) := hF.1
        have A1 : At w5 w.heap.size 22 #[.int .i64 0, .int .i64 0, .int .i64 0] := hF.2.1
        have k5 : Keeps w w5 := hF.2.2.1
        rw [hall 9 (by simp), cond_true] at A0
        clear hall hF hat hA hkr cX cN
        clear hcI
        by_cases hok : o3 ≤ 1000000000
        · rw [if_pos hok] at hf
          have hd : decide (o3 > 1000000000) = false := by simp; omega
          rw [hd] at cF
          have Hf := Lib.hid hf
          have Ht2 := Lib.hid (ht2 hok)
          have p1 := (row_six A0).1
          have p2 := (row_six A0).2.1
          have p3 := (row_six A0).2.2.1
          clear hf hok ht2 hd
          go_wp2_with (go_at_call 27; refine (cF _).mono ?_; rintro e w6 ⟨rfl, h6⟩)
          go_roundw
          case rel => exact ⟨k + 1, (o1, o2, o3), by omega, by go_num, Ht2.out, Hf.out, A0.later h6, Keeps.next k5 h6, A1.later h6⟩
          case measure => simp [intOf]; omega
        · rw [if_neg hok] at hf
          have hd : decide (o3 > 1000000000) = true := by simp; omega
          rw [hd] at cF
          have Hf := Lib.hid hf
          have p1 := (row_six A0).1
          have p2 := (row_six A0).2.1
          have p3 := (row_six A0).2.2.1
          clear hf hok ht2 hd
          go_wp2_with (first
            | (go_at_call 27; refine (cF _).mono ?_; rintro e w6 ⟨rfl, h6⟩; have A16 := A1.later h6)
            | (refine wpList_store_row rfl 22 _ _ rfl w.heap.size #[.int .i64 0, .int .i64 0, .int .i64 0] rfl rfl 22 #[.int .i64 0, .int .i64 0, .int .i64 0] A16 (size3 _ _ _) rfl (oneT _ _ _) ?_))
          have h3 := A16.row #[.int .i64 0, .int .i64 0, .int .i64 0]
          exact bodyPost_ret (v := .tuple #[.agg #[.int .i64 0, .int .i64 0, .int .i64 0], .int .i64 5]) (results_row_tmp Tryd.results15 _ _ w.heap.size _ _ _ rfl h3 Tryd.underlying22 rfl (size3 _ _ _)) rfl ⟨by rw [← Hf.out]; rfl, below_row (Keeps.next k5 h6) (by omega) _⟩
      · rw [hc] at hf
        have hcI : ((s[k].toNat : Nat) : Int) = 82 := by rw [hc]; rfl
        have hnx : nxtT (a, b, c) 82 = rightT (a, b, c) := by rfl
        rw [hnx] at hf
        have cN := fun W => (ex_calls a b c ht W).2.1
        have ht2 := TriT.right ht
        generalize rightT (a, b, c) = o at *
        obtain ⟨o1, o2, o3⟩ := o
        simp only at cN hf ht2
        have Hc := Lib.hid hc
        have HcI := Lib.hid hcI
        have cF := fun W => isFull_c o1 o2 o3 W
        clear hnx hc hdr hcI
        go_upto_region 7 with fail
        have hcI := HcI.out
        refine region_any_inv (G := Nat × Nat) (f := ?ff1) (fun g => [.agg #[.int .i64 a, .int .i64 b, .int .i64 c], .slice (some ⟨g.1, 0, none⟩) 3 3, .string s, .int .i64 k, .int .u8 82, .int .i64 1, .pointer (some ⟨g.2, 1, none⟩), .func (.func 36) #[.agg #[.int .i64 a, .int .i64 b, .int .i64 c]] #[], .agg #[.int .i64 o1, .int .i64 o2, .int .i64 o3], undef])
          (fun g L w' => At w' gB 52 (bif L 9 then #[.int .i64 o1, .int .i64 o2, .int .i64 o3] else #[.int .i64 a, .int .i64 b, .int .i64 c]) ∧ At w' w.heap.size 22 #[.int .i64 0, .int .i64 0, .int .i64 0] ∧ Keeps w w' ∧ (L 1 = true → At w' g.1 55 #[.func (.func 35) #[.agg #[.int .i64 a, .int .i64 b, .int .i64 c]] #[], .func (.func 36) #[.agg #[.int .i64 a, .int .i64 b, .int .i64 c]] #[], .func (.func 34) #[.agg #[.int .i64 a, .int .i64 b, .int .i64 c]] #[]]) ∧ (L 6 = true → g.2 = g.1)) (0, 0) (fun _ => ?hff1) (by kernel_rfl) (by kernel_rfl) ⟨hat.drew, hA.drew, keeps_dr hkr, (fun h => by cases h), (fun h => by cases h)⟩ ?stepsf1 ?finf1
        case hff1 =>
          simp only [fill, List.toList_toArray, List.zip_cons_cons, List.zip_nil_left, List.zip_nil_right, List.foldl_cons, List.foldl_nil, Act.put, List.setIfInBounds_toArray, List.set_cons_succ, List.set_cons_zero]
          exact rfl
        case stepsf1 =>
          refine StepsU.cons rfl (fun g L w' hL hr hc hF => ?_) ?_
          · have A0 : At w' gB 52 (bif L 9 then #[.int .i64 o1, .int .i64 o2, .int .i64 o3] else #[.int .i64 a, .int .i64 b, .int .i64 c]) := hF.1
            have A1 : At w' w.heap.size 22 #[.int .i64 0, .int .i64 0, .int .i64 0] := hF.2.1
            have k3 : Keeps w w' := hF.2.2.1
            have AF : L 1 = true → At w' g.1 55 #[.func (.func 35) #[.agg #[.int .i64 a, .int .i64 b, .int .i64 c]] #[], .func (.func 36) #[.agg #[.int .i64 a, .int .i64 b, .int .i64 c]] #[], .func (.func 34) #[.agg #[.int .i64 a, .int .i64 b, .int .i64 c]] #[]] := hF.2.2.2.1
            have AG : L 6 = true → g.2 = g.1 := hF.2.2.2.2
            have hL9 : L 9 = false := hc.not 9 0 rfl rfl hL
            rw [hL9, cond_false] at A0
            have p1 := (row_six A0).1
            have p2 := (row_six A0).2.1
            have p3 := (row_six A0).2.2.1
            have AG9 := Lib.hid AG
            clear AG
            clear hF hc hr hat hA hkr
            clear cX cN
            refine StepU.go rfl (fun K hK => ?_)
            go_simp
            exact hK g _ ⟨by rw [show add L 0 9 = L 9 from rfl, hL9]; exact A0, A1, k3, AF, AG9.out⟩
          refine StepsU.cons rfl (fun g L w' hL hr hc hF => ?_) ?_
          · have A0 : At w' gB 52 (bif L 9 then #[.int .i64 o1, .int .i64 o2, .int .i64 o3] else #[.int .i64 a, .int .i64 b, .int .i64 c]) := hF.1
            have A1 : At w' w.heap.size 22 #[.int .i64 0, .int .i64 0, .int .i64 0] := hF.2.1
            have k3 : Keeps w w' := hF.2.2.1
            have AF : L 1 = true → At w' g.1 55 #[.func (.func 35) #[.agg #[.int .i64 a, .int .i64 b, .int .i64 c]] #[], .func (.func 36) #[.agg #[.int .i64 a, .int .i64 b, .int .i64 c]] #[], .func (.func 34) #[.agg #[.int .i64 a, .int .i64 b, .int .i64 c]] #[]] := hF.2.2.2.1
            have AG : L 6 = true → g.2 = g.1 := hF.2.2.2.2
            have n6 := hc.not 6 1 rfl rfl hL
            have AG9 := Lib.hid AG
            clear AG
            clear hF hc hr hat hA hkr
            have C9 := Lib.hid (cX w')
            clear cX cN
            refine StepU.go rfl (fun K hK => ?_)
            go_simp
            refine C9.out.mono ?_
            rintro e w2 ⟨g2, rfl, hf2, hg2, b3⟩
            exact hK (g2, g.2) _ ⟨A0.later b3, A1.later b3, Keeps.next k3 b3, (fun _ => hf2), (fun h6 => by rw [show add L 1 6 = L 6 from rfl, n6] at h6; cases h6)⟩
          refine StepsU.cons rfl (fun g L w' hL hr hc hF => ?_) ?_
          · have A0 : At w' gB 52 (bif L 9 then #[.int .i64 o1, .int .i64 o2, .int .i64 o3] else #[.int .i64 a, .int .i64 b, .int .i64 c]) := hF.1
            have A1 : At w' w.heap.size 22 #[.int .i64 0, .int .i64 0, .int .i64 0] := hF.2.1
            have k3 : Keeps w w' := hF.2.2.1
            have AF : L 1 = true → At w' g.1 55 #[.func (.func 35) #[.agg #[.int .i64 a, .int .i64 b, .int .i64 c]] #[], .func (.func 36) #[.agg #[.int .i64 a, .int .i64 b, .int .i64 c]] #[], .func (.func 34) #[.agg #[.int .i64 a, .int .i64 b, .int .i64 c]] #[]] := hF.2.2.2.1
            have AG : L 6 = true → g.2 = g.1 := hF.2.2.2.2
            have AG9 := Lib.hid AG
            clear AG
            clear hF hc hr hat hA hkr
            clear cX cN
            refine StepU.go rfl (fun K hK => ?_)
            go_simp
            exact hK g _ ⟨A0, A1, k3, AF, AG9.out⟩
          refine StepsU.cons rfl (fun g L w' hL hr hc hF => ?_) ?_
          · have A0 : At w' gB 52 (bif L 9 then #[.int .i64 o1, .int .i64 o2, .int .i64 o3] else #[.int .i64 a, .int .i64 b, .int .i64 c]) := hF.1
            have A1 : At w' w.heap.size 22 #[.int .i64 0, .int .i64 0, .int .i64 0] := hF.2.1
            have k3 : Keeps w w' := hF.2.2.1
            have AF : L 1 = true → At w' g.1 55 #[.func (.func 35) #[.agg #[.int .i64 a, .int .i64 b, .int .i64 c]] #[], .func (.func 36) #[.agg #[.int .i64 a, .int .i64 b, .int .i64 c]] #[], .func (.func 34) #[.agg #[.int .i64 a, .int .i64 b, .int .i64 c]] #[]] := hF.2.2.2.1
            have AG : L 6 = true → g.2 = g.1 := hF.2.2.2.2
            have AG9 := Lib.hid AG
            clear AG
            clear hF hc hr hat hA hkr
            clear cX cN
            refine StepU.go rfl (fun K hK => ?_)
            go_simp
            exact hK g _ ⟨A0, A1, k3, AF, AG9.out⟩
          refine StepsU.cons rfl (fun g L w' hL hr hc hF => ?_) ?_
          · have A0 : At w' gB 52 (bif L 9 then #[.int .i64 o1, .int .i64 o2, .int .i64 o3] else #[.int .i64 a, .int .i64 b, .int .i64 c]) := hF.1
            have A1 : At w' w.heap.size 22 #[.int .i64 0, .int .i64 0, .int .i64 0] := hF.2.1
            have k3 : Keeps w w' := hF.2.2.1
            have AF : L 1 = true → At w' g.1 55 #[.func (.func 35) #[.agg #[.int .i64 a, .int .i64 b, .int .i64 c]] #[], .func (.func 36) #[.agg #[.int .i64 a, .int .i64 b, .int .i64 c]] #[], .func (.func 34) #[.agg #[.int .i64 a, .int .i64 b, .int .i64 c]] #[]] := hF.2.2.2.1
            have AG : L 6 = true → g.2 = g.1 := hF.2.2.2.2
            have AG9 := Lib.hid AG
            clear AG
            clear hF hc hr hat hA hkr
            clear cX cN
            refine StepU.go rfl (fun K hK => ?_)
            go_simp
            exact hK g _ ⟨A0, A1, k3, AF, AG9.out⟩
          refine StepsU.cons rfl (fun g L w' hL hr hc hF => ?_) ?_
          · have A0 : At w' gB 52 (bif L 9 then #[.int .i64 o1, .int .i64 o2, .int .i64 o3] else #[.int .i64 a, .int .i64 b, .int .i64 c]) := hF.1
            have A1 : At w' w.heap.size 22 #[.int .i64 0, .int .i64 0, .int .i64 0] := hF.2.1
            have k3 : Keeps w w' := hF.2.2.1
            have AF : L 1 = true → At w' g.1 55 #[.func (.func 35) #[.agg #[.int .i64 a, .int .i64 b, .int .i64 c]] #[], .func (.func 36) #[.agg #[.int .i64 a, .int .i64 b, .int .i64 c]] #[], .func (.func 34) #[.agg #[.int .i64 a, .int .i64 b, .int .i64 c]] #[]] := hF.2.2.2.1
            have AG : L 6 = true → g.2 = g.1 := hF.2.2.2.2
            have AG9 := Lib.hid AG
            clear AG
            clear hF hc hr hat hA hkr
            have C9 := Lib.hid (index_R w')
            clear cX cN
            refine StepU.go rfl (fun K hK => ?_)
            go_simp
            refine C9.out.mono ?_
            rintro e w2 ⟨rfl, rfl⟩
            exact hK g _ ⟨A0, A1, k3, AF, AG9.out⟩
          refine StepsU.cons rfl (fun g L w' hL hr hc hF => ?_) ?_
          · have A0 : At w' gB 52 (bif L 9 then #[.int .i64 o1, .int .i64 o2, .int .i64 o3] else #[.int .i64 a, .int .i64 b, .int .i64 c]) := hF.1
            have A1 : At w' w.heap.size 22 #[.int .i64 0, .int .i64 0, .int .i64 0] := hF.2.1
            have k3 : Keeps w w' := hF.2.2.1
            have AF : L 1 = true → At w' g.1 55 #[.func (.func 35) #[.agg #[.int .i64 a, .int .i64 b, .int .i64 c]] #[], .func (.func 36) #[.agg #[.int .i64 a, .int .i64 b, .int .i64 c]] #[], .func (.func 34) #[.agg #[.int .i64 a, .int .i64 b, .int .i64 c]] #[]] := hF.2.2.2.1
            have AG : L 6 = true → g.2 = g.1 := hF.2.2.2.2
            have AG9 := Lib.hid AG
            clear AG
            clear hF hc hr hat hA hkr
            clear cX cN
            refine StepU.go rfl (fun K hK => ?_)
            go_simp
            exact hK (g.1, g.1) _ ⟨A0, A1, k3, AF, fun _ => rfl⟩
          refine StepsU.cons rfl (fun g L w' hL hr hc hF => ?_) ?_
          · have A0 : At w' gB 52 (bif L 9 then #[.int .i64 o1, .int .i64 o2, .int .i64 o3] else #[.int .i64 a, .int .i64 b, .int .i64 c]) := hF.1
            have A1 : At w' w.heap.size 22 #[.int .i64 0, .int .i64 0, .int .i64 0] := hF.2.1
            have k3 : Keeps w w' := hF.2.2.1
            have AF : L 1 = true → At w' g.1 55 #[.func (.func 35) #[.agg #[.int .i64 a, .int .i64 b, .int .i64 c]] #[], .func (.func 36) #[.agg #[.int .i64 a, .int .i64 b, .int .i64 c]] #[], .func (.func 34) #[.agg #[.int .i64 a, .int .i64 b, .int .i64 c]] #[]] := hF.2.2.2.1
            have AG : L 6 = true → g.2 = g.1 := hF.2.2.2.2
            have h61 : L 6 = true := hr 6 rfl
            have hL1 : L 1 = true := by
              cases h : L 1
              · have h6 := hc.not 6 1 rfl rfl h
                rw [h61] at h6; cases h6
              · rfl
            have AFt := AF hL1
            have cf : w'.cell? ⟨g.2, 1, none⟩ = some (.func (.func 36) #[.agg #[.int .i64 a, .int .i64 b, .int .i64 c]] #[]) := by rw [AG h61]; exact (AFt.cell 1).trans rfl
            have AG9 := Lib.hid AG
            clear AG
            clear h61
            clear hF hc hr hat hA hkr
            clear cX cN
            refine StepU.go rfl (fun K hK => ?_)
            go_simp
            exact hK g _ ⟨A0, A1, k3, AF, AG9.out⟩
          refine StepsU.cons rfl (fun g L w' hL hr hc hF => ?_) ?_
          · have A0 : At w' gB 52 (bif L 9 then #[.int .i64 o1, .int .i64 o2, .int .i64 o3] else #[.int .i64 a, .int .i64 b, .int .i64 c]) := hF.1
            have A1 : At w' w.heap.size 22 #[.int .i64 0, .int .i64 0, .int .i64 0] := hF.2.1
            have k3 : Keeps w w' := hF.2.2.1
            have AF : L 1 = true → At w' g.1 55 #[.func (.func 35) #[.agg #[.int .i64 a, .int .i64 b, .int .i64 c]] #[], .func (.func 36) #[.agg #[.int .i64 a, .int .i64 b, .int .i64 c]] #[], .func (.func 34) #[.agg #[.int .i64 a, .int .i64 b, .int .i64 c]] #[]] := hF.2.2.2.1
            have AG : L 6 = true → g.2 = g.1 := hF.2.2.2.2
            have AG9 := Lib.hid AG
            clear AG
            clear hF hc hr hat hA hkr
            have C9 := Lib.hid (cN w')
            clear cX cN
            refine StepU.go rfl (fun K hK => ?_)
            go_simp
            refine C9.out.mono ?_
            rintro e w2 ⟨rfl, b3⟩
            exact hK g _ ⟨A0.later b3, A1.later b3, Keeps.next k3 b3, (fun h => (AF h).later b3), AG9.out⟩
          refine StepsU.cons rfl (fun g L w' hL hr hc hF => ?_) ?_
          · have A0 : At w' gB 52 (bif L 9 then #[.int .i64 o1, .int .i64 o2, .int .i64 o3] else #[.int .i64 a, .int .i64 b, .int .i64 c]) := hF.1
            have A1 : At w' w.heap.size 22 #[.int .i64 0, .int .i64 0, .int .i64 0] := hF.2.1
            have k3 : Keeps w w' := hF.2.2.1
            have AF : L 1 = true → At w' g.1 55 #[.func (.func 35) #[.agg #[.int .i64 a, .int .i64 b, .int .i64 c]] #[], .func (.func 36) #[.agg #[.int .i64 a, .int .i64 b, .int .i64 c]] #[], .func (.func 34) #[.agg #[.int .i64 a, .int .i64 b, .int .i64 c]] #[]] := hF.2.2.2.1
            have AG : L 6 = true → g.2 = g.1 := hF.2.2.2.2
            have h61 : L 6 = true := by
                  cases h : L 6
                  · have h7 := hc.not 7 6 rfl rfl h
                    have h8 := hc.not 8 7 rfl rfl h7
                    rw [hr 8 rfl] at h8; cases h8
                  · rfl
            have hL1 : L 1 = true := by
              cases h : L 1
              · have h6 := hc.not 6 1 rfl rfl h
                rw [h61] at h6; cases h6
              · rfl
            have AFt := AF hL1
            rw [hL, cond_false] at A0
            obtain ⟨r1, r2, r3, r4, r5, r6⟩ := row_six A0
            have hne : g.1 ≠ gB := by
              intro e
              rw [e] at AFt
              have h := A0.symm.trans AFt
              cases h
            have AG9 := Lib.hid AG
            clear AG
            clear h61
            clear hF hc hr hat hA hkr
            clear cX cN
            refine StepU.go rfl (fun K hK => ?_)
            go_simp
            exact hK g _ ⟨by rw [add_same, cond_true]; exact A0.three _ _ _, ((A1.far (by simp; omega) _).far (by simp; omega) _).far (by simp; omega) _, Below.setCell (Below.setCell (Below.setCell k3 hgB _) hgB _) hgB _, (fun _ => ((AFt.far hne _).far hne _).far hne _), AG9.out⟩
          exact StepsU.nil (by simp)
        case finf1 =>
        intro g L w5 hall hF
        have A0 : At w5 gB 52 (bif L 9 then #[.int .i64 o1, .int .i64 o2, .int .i64 o3] else #[.int .i64 a, .int .i64 b, .int .i64 c]) := hF.1
        have A1 : At w5 w.heap.size 22 #[.int .i64 0, .int .i64 0, .int .i64 0] := hF.2.1
        have k5 : Keeps w w5 := hF.2.2.1
        rw [hall 9 (by simp), cond_true] at A0
        clear hall hF hat hA hkr cX cN
        clear hcI
        by_cases hok : o3 ≤ 1000000000
        · rw [if_pos hok] at hf
          have hd : decide (o3 > 1000000000) = false := by simp; omega
          rw [hd] at cF
          have Hf := Lib.hid hf
          have Ht2 := Lib.hid (ht2 hok)
          have p1 := (row_six A0).1
          have p2 := (row_six A0).2.1
          have p3 := (row_six A0).2.2.1
          clear hf hok ht2 hd
          go_wp2_with (go_at_call 27; refine (cF _).mono ?_; rintro e w6 ⟨rfl, h6⟩)
          go_roundw
          case rel => exact ⟨k + 1, (o1, o2, o3), by omega, by go_num, Ht2.out, Hf.out, A0.later h6, Keeps.next k5 h6, A1.later h6⟩
          case measure => simp [intOf]; omega
        · rw [if_neg hok] at hf
          have hd : decide (o3 > 1000000000) = true := by simp; omega
          rw [hd] at cF
          have Hf := Lib.hid hf
          have p1 := (row_six A0).1
          have p2 := (row_six A0).2.1
          have p3 := (row_six A0).2.2.1
          clear hf hok ht2 hd
          go_wp2_with (first
            | (go_at_call 27; refine (cF _).mono ?_; rintro e w6 ⟨rfl, h6⟩; have A16 := A1.later h6)
            | (refine wpList_store_row rfl 22 _ _ rfl w.heap.size #[.int .i64 0, .int .i64 0, .int .i64 0] rfl rfl 22 #[.int .i64 0, .int .i64 0, .int .i64 0] A16 (size3 _ _ _) rfl (oneT _ _ _) ?_))
          have h3 := A16.row #[.int .i64 0, .int .i64 0, .int .i64 0]
          exact bodyPost_ret (v := .tuple #[.agg #[.int .i64 0, .int .i64 0, .int .i64 0], .int .i64 5]) (results_row_tmp Tryd.results15 _ _ w.heap.size _ _ _ rfl h3 Tryd.underlying22 rfl (size3 _ _ _)) rfl ⟨by rw [← Hf.out]; rfl, below_row (Keeps.next k5 h6) (by omega) _⟩
    · obtain rfl : k = s.size := by omega
      have hdr : s.data.toList.drop s.size = [] := List.drop_eq_nil_of_le (by rw [Array.length_toList]; exact Nat.le_refl _)
      rw [hdr, folF] at hf
      have Hf := Lib.hid hf
      obtain ⟨a, b, c⟩ := t
      have p1 := (row_six hat).1
      have p2 := (row_six hat).2.1
      have p3 := (row_six hat).2.2.1
      clear hf hdr ht
      go_wp2_with (refine wpList_store_row rfl 22 _ _ rfl w.heap.size #[.int .i64 a, .int .i64 b, .int .i64 c] rfl rfl 22 #[.int .i64 0, .int .i64 0, .int .i64 0] hA (size3 _ _ _) rfl (oneT _ _ _) ?_)
      have h3 := hA.row #[.int .i64 a, .int .i64 b, .int .i64 c]
      exact bodyPost_ret (v := .tuple #[.agg #[.int .i64 a, .int .i64 b, .int .i64 c], .int .i64 0]) (results_row_tmp Tryd.results15 _ _ w.heap.size _ _ _ rfl h3 Tryd.underlying22 rfl (size3 _ _ _)) rfl ⟨by rw [← Hf.out]; rfl, below_row hkr (by omega) _⟩
end Go.Proofs.YteffkcnlipdgaaaDoor
