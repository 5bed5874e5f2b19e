/- The reference's Matrix; the law of Matrices. -/
import Derived.Test.YtnlogppdnfhelaaDoorVd
namespace Go.Proofs.YtnlogppdnfhelaaDoor
open Go.RowKit
set_option linter.unusedVariables false
set_option linter.unusedSimpArgs false

theorem run_max4 {P : Program} (ats : Array TypeId) (t : TypeId) (a b c d : Int) (w : World) : (Builtin.max_ ats t #[.int .i64 a, .int .i64 b, .int .i64 c, .int .i64 d]).run P w = .ok (.int .i64 (max4 (a, b, c, d))) w := by
  have h2 : ∀ x y : Int, (Builtin.max2 (.int .i64 x) (.int .i64 y)).run P w = .ok (.int .i64 (max x y)) w := by
    intro x y
    unfold Builtin.max2
    by_cases h : y > x
    · simp [h, go_sem, Int.max_def]
      omega
    · simp [h, go_sem, Int.max_def]
      omega
  unfold Builtin.max_
  simp [List.foldlM, Sem.run_bind, h2, max4, Result.andThen]
/-- What the reference's Matrix answers. -/
def MatS (r : Option Mx) (e : Ending) : Prop := match r with
  | none => e = .returned (.tuple #[.agg (mv (0, 0, 0, 0)), .bool false])
  | some m => e = .returned (.tuple #[.agg (mv m), .bool true])
theorem word_at (s : ByteArray) (k : Nat) (hk : k < s.size) (h : (s.data.toList.all fun c => [97, 98].contains c) = true) : s[k] = 97 ∨ s[k] = 98 := by
  have := List.all_eq_true.1 h s[k] (by show s.data[k] ∈ _; simp)
  simpa using this
set_option maxHeartbeats 8000000 in
set_option maxRecDepth 20000 in
theorem refMatrix_c (s : ByteArray) (hs : s.size ≤ 100) (hw : (s.data.toList.all fun c => [97, 98].contains c) = true) (w : World) :
    Calls Tryd.prog 26 #[.string s] w fun e w' => MatS (matF (1, 0, 0, 1) s.data.toList) e ∧ Keeps w w' := by
  have hA0 := (At.new w 47 (mv (0, 0, 0, 0))).alloc (.cells #[.int .i64 1, .int .i64 0, .int .i64 0, .int .i64 1] 47)
  have hB0 : At ((w.alloc (.cells (mv (0, 0, 0, 0)) 47)).alloc (.cells #[.int .i64 1, .int .i64 0, .int .i64 0, .int .i64 1] 47)) (w.heap.size + 1) 47 (mv (1, 0, 0, 1)) := At.new2 w _ _ _
  have hk1 : Keeps w ((w.alloc (.cells (mv (0, 0, 0, 0)) 47)).alloc (.cells #[.int .i64 1, .int .i64 0, .int .i64 0, .int .i64 1] 47)) := Keeps.alloc (Keeps.alloc (Below.refl _ _) _) _
  go_enter Tryd.func26, Tryd.ntmps26
  go_wp2_with fail
  change Code.wp _ _ _ _ ((w.alloc (.cells (mv (0, 0, 0, 0)) 47)).alloc (.cells #[.int .i64 1, .int .i64 0, .int .i64 0, .int .i64 1] 47))
  generalize (w.alloc (.cells (mv (0, 0, 0, 0)) 47)).alloc (.cells #[.int .i64 1, .int .i64 0, .int .i64 0, .int .i64 1] 47) = X at *
  go_loopw [5] (fun s5 wr => ∃ (k : Nat) (m : Mx), k ≤ s.size ∧ s5 = .int .i64 k ∧ bdM m ∧ matF m (s.data.toList.drop k) = matF (1, 0, 0, 1) s.data.toList ∧ At wr (w.heap.size + 1) 47 (mv m) ∧ Keeps w wr ∧ At wr w.heap.size 47 (mv (0, 0, 0, 0))) (fun s5 _ => s.size - (intOf s5).toNat)
  case atStart => exact ⟨0, (1, 0, 0, 1), Nat.zero_le _, rfl, by unfold bdM; decide, rfl, hB0, hk1, hA0⟩
  case round =>
    obtain ⟨k, m, hk, rfl, hm, hf, hat, hkr, hA⟩ := hrel
    clear hB0 hk1 hA0
    by_cases hlt : k < s.size
    · have hkI : (k : Int) < s.size := by omega
      have hdr : s.data.toList.drop k = s[k] :: s.data.toList.drop (k + 1) := by
        rw [List.drop_eq_getElem_cons (by simpa using hlt)]; rfl
      have hq : s[k]? = some s[k] := by simp [hlt]
      have hsz := hkr.size
      have hlt2 := hat.lt
      have hab := word_at s k hlt hw
      rw [hdr, matF] at hf
      have hb2 := bdM_mul m s[k] hm
      have hz2 := hm
      obtain ⟨m1, m2, m3, m4⟩ := m
      obtain ⟨⟨a1, a2⟩, ⟨b1, b2⟩, ⟨c1, c2⟩, ⟨d1, d2⟩⟩ := hz2
      simp only at a1 a2 b1 b2 c1 c2 d1 d2
      have hne1 : w.heap.size + 1 ≠ wr.heap.size := by omega
      have hne2 : w.heap.size ≠ wr.heap.size := by omega
      rcases hab with hc | hc
      · rw [hc] at hf hb2
        have hmx : mxOf 97 = (2, 1, 1, 1) := by decide
        rw [hmx] at hf hb2
        have hmul : mul (m1, m2, m3, m4) (2, 1, 1, 1) = (m1 * 2 + m2, m1 + m2, m3 * 2 + m4, m3 + m4) := by simp [mul]
        rw [hmul] at hf hb2
        have heqc : (((s[k].toNat : Nat) : Int) == 98) = false := by rw [hc]; rfl
        have Hc := Lib.hid hc
        have hX1 := At.new wr 47 #[.int .i64 2, .int .i64 1, .int .i64 1, .int .i64 1]
        have hY1 := hat.alloc (.cells #[.int .i64 2, .int .i64 1, .int .i64 1, .int .i64 1] 47)
        have hY2 := hA.alloc (.cells #[.int .i64 2, .int .i64 1, .int .i64 1, .int .i64 1] 47)
        have hY3 : Keeps w (wr.alloc (.cells #[.int .i64 2, .int .i64 1, .int .i64 1, .int .i64 1] 47)) := Keeps.alloc hkr _
        have q0 : IntKind.i64.wrap m1 = m1 := IntWalk.i64_in _ (by omega)
        have q1 : IntKind.i64.wrap m2 = m2 := IntWalk.i64_in _ (by omega)
        have q2 : IntKind.i64.wrap m3 = m3 := IntWalk.i64_in _ (by omega)
        have q3 : IntKind.i64.wrap m4 = m4 := IntWalk.i64_in _ (by omega)
        have q4 : IntKind.i64.wrap (m1 * 2) = m1 * 2 := IntWalk.i64_in _ (by omega)
        have q5 : IntKind.i64.wrap (m2 * 2) = m2 * 2 := IntWalk.i64_in _ (by omega)
        have q6 : IntKind.i64.wrap (m3 * 2) = m3 * 2 := IntWalk.i64_in _ (by omega)
        have q7 : IntKind.i64.wrap (m4 * 2) = m4 * 2 := IntWalk.i64_in _ (by omega)
        have q8 : IntKind.i64.wrap (m1 * 2 + m2) = m1 * 2 + m2 := IntWalk.i64_in _ (by omega)
        have q9 : IntKind.i64.wrap (m1 + m2) = m1 + m2 := IntWalk.i64_in _ (by omega)
        have q10 : IntKind.i64.wrap (m3 * 2 + m4) = m3 * 2 + m4 := IntWalk.i64_in _ (by omega)
        have q11 : IntKind.i64.wrap (m3 + m4) = m3 + m4 := IntWalk.i64_in _ (by omega)
        have Hf := Lib.hid hf
        have Hb2 := Lib.hid hb2
        clear hf hb2 hc hmx hmul hdr hm a1 a2 b1 b2 c1 c2 d1 d2 hat hA hkr
        go_upto_region 8 with fail
        generalize wr.alloc (.cells #[.int .i64 2, .int .i64 1, .int .i64 1, .int .i64 1] 47) = Y at *
        have hX9 := hX1
        generalize wr.heap.size = gX at *
        have p1 := (row_mv hY1).1
        have p2 := (row_mv hY1).2.1
        have p3 := (row_mv hY1).2.2.1
        have p4 := (row_mv hY1).2.2.2
        have x1 := (row_mv (m := (2, 1, 1, 1)) hX9).1
        have x2 := (row_mv (m := (2, 1, 1, 1)) hX9).2.1
        have x3 := (row_mv (m := (2, 1, 1, 1)) hX9).2.2.1
        have x4 := (row_mv (m := (2, 1, 1, 1)) hX9).2.2.2
        go_upto_region 9 with (refine wpList_store_row rfl 47 _ _ rfl (w.heap.size + 1) #[.int .i64 (m1 * 2 + m2), .int .i64 (m1 + m2), .int .i64 (m3 * 2 + m4), .int .i64 (m3 + m4)] rfl rfl 47 (mv (m1, m2, m3, m4)) hY1 (sizeM4 (_, _, _, _)) rfl (oneM (_, _, _, _)) ?_)
        have hZ1 := hY1.row #[.int .i64 (m1 * 2 + m2), .int .i64 (m1 + m2), .int .i64 (m3 * 2 + m4), .int .i64 (m3 + m4)]
        have hZ2 := hY2.rowfar (by omega : w.heap.size ≠ w.heap.size + 1) #[.int .i64 (m1 * 2 + m2), .int .i64 (m1 + m2), .int .i64 (m3 * 2 + m4), .int .i64 (m3 + m4)]
        have hZ3 := below_row hY3 (by omega : w.heap.size ≤ w.heap.size + 1) #[.int .i64 (m1 * 2 + m2), .int .i64 (m1 + m2), .int .i64 (m3 * 2 + m4), .int .i64 (m3 + m4)]
        change Keeps w _ at hZ3
        generalize Y.setRow (w.heap.size + 1) #[.int .i64 (m1 * 2 + m2), .int .i64 (m1 + m2), .int .i64 (m3 * 2 + m4), .int .i64 (m3 + m4)] = V at *
        clear p1 p2 p3 p4 x1 x2 x3 x4 hX9 hX1 hY1 hY2 hY3 q0 q1 q2 q3 q4 q5 q6 q7 q8 q9 q10 q11
        generalize m1 * 2 + m2 = e0 at *
        generalize m1 + m2 = e1 at *
        generalize m3 * 2 + m4 = e2 at *
        generalize m3 + m4 = e3 at *
        have p1 := (row_mv (m := (e0, e1, e2, e3)) hZ1).1
        have p2 := (row_mv (m := (e0, e1, e2, e3)) hZ1).2.1
        have p3 := (row_mv (m := (e0, e1, e2, e3)) hZ1).2.2.1
        have p4 := (row_mv (m := (e0, e1, e2, e3)) hZ1).2.2.2
        have hmax := fun W => run_max4 (P := Tryd.prog) #[3, 3, 3, 3] 3 e0 e1 e2 e3 W
        cases hbig : decide (1152921504606846976 < max4 (e0, e1, e2, e3))
        · have hn : ¬ 1152921504606846976 < max4 (e0, e1, e2, e3) := of_decide_eq_false hbig
          have hf2 := Hf.out
          rw [if_neg hn] at hf2
          have Hf2 := Lib.hid hf2
          have Hb3 := Lib.hid (Hb2.out hn)
          clear hn hf2 Hf Hb2
          generalize max4 (e0, e1, e2, e3) = M at *
          go_wp2_with fail
          go_roundw
          case rel => exact ⟨k + 1, (e0, e1, e2, e3), by omega, by go_num, Hb3.out, Hf2.out, hZ1, hZ3, hZ2⟩
          case measure => simp [intOf]; omega
        · have hn : 1152921504606846976 < max4 (e0, e1, e2, e3) := of_decide_eq_true hbig
          have hf2 := Hf.out
          rw [if_pos hn] at hf2
          have Hf2 := Lib.hid hf2
          clear hn hf2 Hf Hb2
          generalize max4 (e0, e1, e2, e3) = M at *
          go_wp2_with (refine wpList_store_row rfl 47 _ _ rfl w.heap.size (mv (0, 0, 0, 0)) rfl rfl 47 (mv (0, 0, 0, 0)) hZ2 (sizeM4 _) rfl (oneM _) ?_)
          have h3 := hZ2.row (mv (0, 0, 0, 0))
          exact bodyPost_ret (v := .tuple #[.agg (mv (0, 0, 0, 0)), .bool false]) (results_row_tmp Tryd.results26 _ _ w.heap.size _ _ _ rfl h3 Tryd.underlying47 rfl (sizeM4 _)) rfl ⟨by rw [← Hf2.out]; rfl, below_row hZ3 (by omega) _⟩
      · rw [hc] at hf hb2
        have hmx : mxOf 98 = (5, 2, 2, 1) := by decide
        rw [hmx] at hf hb2
        have hmul : mul (m1, m2, m3, m4) (5, 2, 2, 1) = (m1 * 5 + m2 * 2, m1 * 2 + m2, m3 * 5 + m4 * 2, m3 * 2 + m4) := by simp [mul]
        rw [hmul] at hf hb2
        have heqc : (((s[k].toNat : Nat) : Int) == 98) = true := by rw [hc]; rfl
        have Hc := Lib.hid hc
        have hX1 := At.new wr 47 #[.int .i64 2, .int .i64 1, .int .i64 1, .int .i64 1]
        have hY1 := hat.alloc (.cells #[.int .i64 2, .int .i64 1, .int .i64 1, .int .i64 1] 47)
        have hY2 := hA.alloc (.cells #[.int .i64 2, .int .i64 1, .int .i64 1, .int .i64 1] 47)
        have hY3 : Keeps w (wr.alloc (.cells #[.int .i64 2, .int .i64 1, .int .i64 1, .int .i64 1] 47)) := Keeps.alloc hkr _
        have q0 : IntKind.i64.wrap m1 = m1 := IntWalk.i64_in _ (by omega)
        have q1 : IntKind.i64.wrap m2 = m2 := IntWalk.i64_in _ (by omega)
        have q2 : IntKind.i64.wrap m3 = m3 := IntWalk.i64_in _ (by omega)
        have q3 : IntKind.i64.wrap m4 = m4 := IntWalk.i64_in _ (by omega)
        have q4 : IntKind.i64.wrap (m1 * 5) = m1 * 5 := IntWalk.i64_in _ (by omega)
        have q5 : IntKind.i64.wrap (m1 * 2) = m1 * 2 := IntWalk.i64_in _ (by omega)
        have q6 : IntKind.i64.wrap (m2 * 5) = m2 * 5 := IntWalk.i64_in _ (by omega)
        have q7 : IntKind.i64.wrap (m2 * 2) = m2 * 2 := IntWalk.i64_in _ (by omega)
        have q8 : IntKind.i64.wrap (m3 * 5) = m3 * 5 := IntWalk.i64_in _ (by omega)
        have q9 : IntKind.i64.wrap (m3 * 2) = m3 * 2 := IntWalk.i64_in _ (by omega)
        have q10 : IntKind.i64.wrap (m4 * 5) = m4 * 5 := IntWalk.i64_in _ (by omega)
        have q11 : IntKind.i64.wrap (m4 * 2) = m4 * 2 := IntWalk.i64_in _ (by omega)
        have q12 : IntKind.i64.wrap (m1 * 5 + m2 * 2) = m1 * 5 + m2 * 2 := IntWalk.i64_in _ (by omega)
        have q13 : IntKind.i64.wrap (m1 * 2 + m2) = m1 * 2 + m2 := IntWalk.i64_in _ (by omega)
        have q14 : IntKind.i64.wrap (m3 * 5 + m4 * 2) = m3 * 5 + m4 * 2 := IntWalk.i64_in _ (by omega)
        have q15 : IntKind.i64.wrap (m3 * 2 + m4) = m3 * 2 + m4 := IntWalk.i64_in _ (by omega)
        have Hf := Lib.hid hf
        have Hb2 := Lib.hid hb2
        clear hf hb2 hc hmx hmul hdr hm a1 a2 b1 b2 c1 c2 d1 d2 hat hA hkr
        go_upto_region 8 with (refine wpList_store_row rfl 47 _ _ rfl wr.heap.size #[.int .i64 5, .int .i64 2, .int .i64 2, .int .i64 1] rfl rfl 47 #[.int .i64 2, .int .i64 1, .int .i64 1, .int .i64 1] hX1 (sizeM4 (_, _, _, _)) rfl (oneM (_, _, _, _)) ?_)
        have hX9 := hX1.row #[.int .i64 5, .int .i64 2, .int .i64 2, .int .i64 1]
        have hY1 := hY1.rowfar hne1 #[.int .i64 5, .int .i64 2, .int .i64 2, .int .i64 1]
        have hY2 := hY2.rowfar hne2 #[.int .i64 5, .int .i64 2, .int .i64 2, .int .i64 1]
        have hY3 := below_row hY3 (by omega : w.heap.size ≤ wr.heap.size) #[.int .i64 5, .int .i64 2, .int .i64 2, .int .i64 1]
        change Keeps w _ at hY3
        generalize (wr.alloc (.cells #[.int .i64 2, .int .i64 1, .int .i64 1, .int .i64 1] 47)).setRow wr.heap.size #[.int .i64 5, .int .i64 2, .int .i64 2, .int .i64 1] = Y at *
        generalize wr.heap.size = gX at *
        have p1 := (row_mv hY1).1
        have p2 := (row_mv hY1).2.1
        have p3 := (row_mv hY1).2.2.1
        have p4 := (row_mv hY1).2.2.2
        have x1 := (row_mv (m := (5, 2, 2, 1)) hX9).1
        have x2 := (row_mv (m := (5, 2, 2, 1)) hX9).2.1
        have x3 := (row_mv (m := (5, 2, 2, 1)) hX9).2.2.1
        have x4 := (row_mv (m := (5, 2, 2, 1)) hX9).2.2.2
        go_upto_region 9 with (refine wpList_store_row rfl 47 _ _ rfl (w.heap.size + 1) #[.int .i64 (m1 * 5 + m2 * 2), .int .i64 (m1 * 2 + m2), .int .i64 (m3 * 5 + m4 * 2), .int .i64 (m3 * 2 + m4)] rfl rfl 47 (mv (m1, m2, m3, m4)) hY1 (sizeM4 (_, _, _, _)) rfl (oneM (_, _, _, _)) ?_)
        have hZ1 := hY1.row #[.int .i64 (m1 * 5 + m2 * 2), .int .i64 (m1 * 2 + m2), .int .i64 (m3 * 5 + m4 * 2), .int .i64 (m3 * 2 + m4)]
        have hZ2 := hY2.rowfar (by omega : w.heap.size ≠ w.heap.size + 1) #[.int .i64 (m1 * 5 + m2 * 2), .int .i64 (m1 * 2 + m2), .int .i64 (m3 * 5 + m4 * 2), .int .i64 (m3 * 2 + m4)]
        have hZ3 := below_row hY3 (by omega : w.heap.size ≤ w.heap.size + 1) #[.int .i64 (m1 * 5 + m2 * 2), .int .i64 (m1 * 2 + m2), .int .i64 (m3 * 5 + m4 * 2), .int .i64 (m3 * 2 + m4)]
        change Keeps w _ at hZ3
        generalize Y.setRow (w.heap.size + 1) #[.int .i64 (m1 * 5 + m2 * 2), .int .i64 (m1 * 2 + m2), .int .i64 (m3 * 5 + m4 * 2), .int .i64 (m3 * 2 + m4)] = V at *
        clear p1 p2 p3 p4 x1 x2 x3 x4 hX9 hX1 hY1 hY2 hY3 q0 q1 q2 q3 q4 q5 q6 q7 q8 q9 q10 q11 q12 q13 q14 q15
        generalize m1 * 5 + m2 * 2 = e0 at *
        generalize m1 * 2 + m2 = e1 at *
        generalize m3 * 5 + m4 * 2 = e2 at *
        generalize m3 * 2 + m4 = e3 at *
        have p1 := (row_mv (m := (e0, e1, e2, e3)) hZ1).1
        have p2 := (row_mv (m := (e0, e1, e2, e3)) hZ1).2.1
        have p3 := (row_mv (m := (e0, e1, e2, e3)) hZ1).2.2.1
        have p4 := (row_mv (m := (e0, e1, e2, e3)) hZ1).2.2.2
        have hmax := fun W => run_max4 (P := Tryd.prog) #[3, 3, 3, 3] 3 e0 e1 e2 e3 W
        cases hbig : decide (1152921504606846976 < max4 (e0, e1, e2, e3))
        · have hn : ¬ 1152921504606846976 < max4 (e0, e1, e2, e3) := of_decide_eq_false hbig
          have hf2 := Hf.out
          rw [if_neg hn] at hf2
          have Hf2 := Lib.hid hf2
          have Hb3 := Lib.hid (Hb2.out hn)
          clear hn hf2 Hf Hb2
          generalize max4 (e0, e1, e2, e3) = M at *
          go_wp2_with fail
          go_roundw
          case rel => exact ⟨k + 1, (e0, e1, e2, e3), by omega, by go_num, Hb3.out, Hf2.out, hZ1, hZ3, hZ2⟩
          case measure => simp [intOf]; omega
        · have hn : 1152921504606846976 < max4 (e0, e1, e2, e3) := of_decide_eq_true hbig
          have hf2 := Hf.out
          rw [if_pos hn] at hf2
          have Hf2 := Lib.hid hf2
          clear hn hf2 Hf Hb2
          generalize max4 (e0, e1, e2, e3) = M at *
          go_wp2_with (refine wpList_store_row rfl 47 _ _ rfl w.heap.size (mv (0, 0, 0, 0)) rfl rfl 47 (mv (0, 0, 0, 0)) hZ2 (sizeM4 _) rfl (oneM _) ?_)
          have h3 := hZ2.row (mv (0, 0, 0, 0))
          exact bodyPost_ret (v := .tuple #[.agg (mv (0, 0, 0, 0)), .bool false]) (results_row_tmp Tryd.results26 _ _ w.heap.size _ _ _ rfl h3 Tryd.underlying47 rfl (sizeM4 _)) rfl ⟨by rw [← Hf2.out]; rfl, below_row hZ3 (by omega) _⟩
    · obtain rfl : k = s.size := by omega
      have hdr : s.data.toList.drop s.size = [] := List.drop_eq_nil_of_le (by rw [Array.length_toList]; exact Nat.le_refl _)
      rw [hdr, matF] at hf
      have Hf := Lib.hid hf
      have p1 := (row_mv hat).1
      have p2 := (row_mv hat).2.1
      have p3 := (row_mv hat).2.2.1
      have p4 := (row_mv hat).2.2.2
      clear hf hdr hm
      go_wp2_with (refine wpList_store_row rfl 47 _ _ rfl w.heap.size (mv m) rfl rfl 47 (mv (0, 0, 0, 0)) hA (sizeM4 _) rfl (oneM _) ?_)
      have h3 := hA.row (mv m)
      exact bodyPost_ret (v := .tuple #[.agg (mv m), .bool true]) (results_row_tmp Tryd.results26 _ _ w.heap.size _ _ _ rfl h3 Tryd.underlying47 rfl (sizeM4 _)) rfl ⟨by rw [← Hf.out]; rfl, below_row hkr (by omega) _⟩
end Go.Proofs.YtnlogppdnfhelaaDoor
