/- The law GaugeGrown. -/
import Derived.Test.YtioaopmoljoieaaDoorXc
import Derived.Test.YtioaopmoljoieaaDoorYa
import Derived.Test.YtioaopmoljoieaaDoorVd
namespace Go.Proofs.YtioaopmoljoieaaDoor
open Go.RowKit
set_option linter.unusedVariables false
set_option linter.unusedSimpArgs false

theorem cntS_snoc (l : List UInt8) (c : UInt8) : cntS (l ++ [c]) = if c = 83 then cntS l + 1 else cntS l := by simp [cntS]
theorem cntS_le (l : List UInt8) : cntS l ≤ l.length := by
  have key : ∀ (l : List UInt8) (m : Nat), l.foldl (fun n c => if c = 83 then n + 1 else n) m ≤ m + l.length := by
    intro l
    induction l with
    | nil => intro m; exact Nat.le_refl _
    | cons c l ih =>
      intro m
      rw [List.foldl_cons]
      refine Nat.le_trans (ih _) ?_
      rw [List.length_cons]
      split <;> omega
  have := key l 0
  rw [Nat.zero_add] at this
  exact this
theorem str_two (l : List UInt8) (c d : UInt8) : (⟨l.toArray⟩ : ByteArray) ++ (⟨#[c, d]⟩ : ByteArray) = ⟨(l ++ [c, d]).toArray⟩ := by
  apply ByteArray.ext
  rw [ByteArray.data_append]
  simp
theorem str_size (l : List UInt8) : (⟨l.toArray⟩ : ByteArray).size = l.length := by show l.toArray.size = _; simp
theorem str_at (l : List UInt8) (j : Nat) (c : UInt8) (h : l[j]? = some c) (h' : j < (⟨l.toArray⟩ : ByteArray).size) : (⟨l.toArray⟩ : ByteArray)[j] = c := by
  have h2 : j < l.length := by rw [str_size] at h'; exact h'
  have : l[j] = c := by rw [List.getElem?_eq_getElem h2] at h; exact Option.some.inj h
  exact this
theorem str_take (l : List UInt8) (n : Nat) : (⟨l.toArray⟩ : ByteArray).extract 0 n = ⟨(l.take n).toArray⟩ := by
  apply ByteArray.ext
  rw [ByteArray.data_extract]
  simp
theorem gapL_two (j : Int) : gapL j = 83 ∨ gapL j = 76 := by unfold gapL; split; exact .inr rfl; exact .inl rfl
set_option maxHeartbeats 4000000 in
set_option maxRecDepth 100000 in
theorem law_grown (n0 : Int) (w : World) (_ha : (Lit.int .i64 n0).wf = true) : Calls Tryd.prog 5 #[.int .i64 n0] w fun e w' => e = .returned (.bool true) ∧ Keeps w w' := by
  have aw := fun z => awake_c z
  have m0 := fun z => mod_c n0 1001 (by decide) (by decide) z
  have hn0 := modN_in n0 1001 (by decide)
  generalize modN n0 1001 = n1 at *
  obtain ⟨n, rfl⟩ := Int.eq_ofNat_of_zero_le hn0.1
  have hn : n ≤ 1000 := by omega
  have c2 := fun z => gaps_yes n hn z
  obtain ⟨S, hS⟩ : ∃ S : ByteArray, ⟨(gapsL n).toArray⟩ = S := ⟨_, rfl⟩
  have hSz : S.size = n := by rw [← hS, str_size, gapsL_length]
  have hch : ∀ (j : Nat) (h : j < n), ∀ h', S[j]'h' = gapL (j : Int) := by
    intro j h
    rw [← hS]
    intro h'
    exact str_at _ _ _ (by simp [gapsL, h]) h'
  rw [hS] at c2
  have HS := Lib.hid hS
  have HC := Lib.hid hch
  have HN := Lib.hid hn
  clear hn0 hS hch hn
  go_enter Tryd.func5, Tryd.ntmps5
  go_wp2_with (first
    | (go_at_call 16; (with_reducible refine (m0 _).mono ?_); rintro e w1 ⟨rfl, rfl⟩)
    | (go_at_call 8; (with_reducible refine (c2 _).mono ?_); rintro e w2 ⟨rfl, k2⟩))
  clear m0 c2
  go_loopw [5, 6, 7] (fun many grown i wr => ∃ j : Nat, j ≤ n ∧ i = .int .i64 j ∧ many = .int .i64 (cntS (gapsL j)) ∧ grown = .string ⟨(grw n (gapsL j)).toArray⟩ ∧ Keeps w wr) (fun _ _ i _ => n - (intOf i).toNat)
  case atStart => exact ⟨0, Nat.zero_le _, rfl, rfl, rfl, k2⟩
  case round =>
    obtain ⟨j, hj, rfl, rfl, rfl, hb⟩ := hrel
    clear k2
    generalize wr = w3 at *
    by_cases hlt : j < n
    · have hm : cntS (gapsL j) ≤ j := by have := cntS_le (gapsL j); rw [gapsL_length] at this; exact this
      have hg := grw_len n (gapsL j)
      have hc := HC.out j hlt
      have e1 := gapsL_succ j
      have e2 : grw n (gapsL (j + 1)) = grwS n (grw n (gapsL j)) (gapL (j : Int)) := by rw [e1, grw_snoc]
      have e3 : cntS (gapsL (j + 1)) = if gapL (j : Int) = 83 then cntS (gapsL j) + 1 else cntS (gapsL j) := by rw [e1, cntS_snoc]
      have hN := HN.out
      have q1 : IntKind.i64.wrap ((j : Int) + 1) = ((j + 1 : Nat) : Int) := by rw [IntWalk.i64_in _ (by omega)]; omega
      have q2 : IntKind.i64.wrap ((cntS (gapsL j) : Int) + 1) = ((cntS (gapsL j) + 1 : Nat) : Int) := by rw [IntWalk.i64_in _ (by omega)]; omega
      have hjI : (j : Int) < (n : Int) := by omega
      have HJ := Lib.hid hlt
      have E2 := Lib.hid e2
      have E3 := Lib.hid e3
      obtain ⟨G, hG⟩ : ∃ G : ByteArray, ⟨(grw n (gapsL j)).toArray⟩ = G := ⟨_, rfl⟩
      have hGz : G.size = (grw n (gapsL j)).length := by rw [← hG, str_size]
      have s1 : ∀ W, (Op.stringOp .add G ⟨#[76]⟩).run Tryd.prog W = .ok (.string ⟨(grw n (gapsL j) ++ [76]).toArray⟩) W := fun W => by
        have := run_string_add_sum (P := Tryd.prog) (w := W) G ⟨#[76]⟩ (by rw [hGz]; show _ + 1 ≤ _; omega)
        rw [← hG, str_snoc] at this
        rw [← hG]; exact this
      have s2 : ∀ W, (Op.stringOp .add G ⟨#[76, 83]⟩).run Tryd.prog W = .ok (.string ⟨(grw n (gapsL j) ++ [76, 83]).toArray⟩) W := fun W => by
        have := run_string_add_sum (P := Tryd.prog) (w := W) G ⟨#[76, 83]⟩ (by rw [hGz]; show _ + 2 ≤ _; omega)
        rw [← hG, str_two] at this
        rw [← hG]; exact this
      have HG := Lib.hid hG
      rw [hG]
      clear hlt hj e1 e2 e3 hm hg hN hG
      generalize cntS (gapsL j) = m at *
      generalize grw n (gapsL j) = gr at *
      unfold grwS at E2
      rcases gapL_two (j : Int) with hL | hL
      · rw [hL] at hc E2 E3
        have E3 := Lib.hid (E3.out.trans (if_pos rfl))
        have hc2 := hc (by rw [hSz]; exact HJ.out)
        clear hc
        by_cases hf : gr.length < n
        · have d2 : G.size < n := by rw [hGz]; exact hf
          have E4 := Lib.hid ((E2.out.trans (if_pos hf)).trans (by rw [if_pos rfl]))
          clear hGz hf E2
          go_wp2_with fail
          go_roundw
          case rel => exact ⟨j + 1, HJ.out, by go_num, by first | (rw [E3.out]; done) | (rw [E3.out]; go_num), by rw [E4.out], hb⟩
          case measure => have := HJ.out; simp [intOf]; omega
        · have d2 : ¬ G.size < n := by rw [hGz]; exact hf
          have E4 := Lib.hid (E2.out.trans (if_neg hf))
          clear hGz hf E2
          go_wp2_with fail
          go_roundw
          case rel => exact ⟨j + 1, HJ.out, by go_num, by first | (rw [E3.out]; done) | (rw [E3.out]; go_num), by rw [E4.out, HG.out], hb⟩
          case measure => have := HJ.out; simp [intOf]; omega
      · rw [hL] at hc E2 E3
        have E3 := Lib.hid (E3.out.trans (if_neg (by decide)))
        have hc2 := hc (by rw [hSz]; exact HJ.out)
        clear hc
        by_cases hf : gr.length < n
        · have d2 : G.size < n := by rw [hGz]; exact hf
          have E4 := Lib.hid ((E2.out.trans (if_pos hf)).trans (by rw [if_neg (by decide)]))
          clear hGz hf E2
          go_wp2_with fail
          go_roundw
          case rel => exact ⟨j + 1, HJ.out, by go_num, by first | (rw [E3.out]; done) | (rw [E3.out]; go_num), by rw [E4.out], hb⟩
          case measure => have := HJ.out; simp [intOf]; omega
        · have d2 : ¬ G.size < n := by rw [hGz]; exact hf
          have E4 := Lib.hid (E2.out.trans (if_neg hf))
          clear hGz hf E2
          go_wp2_with fail
          go_roundw
          case rel => exact ⟨j + 1, HJ.out, by go_num, by first | (rw [E3.out]; done) | (rw [E3.out]; go_num), by rw [E4.out, HG.out], hb⟩
          case measure => have := HJ.out; simp [intOf]; omega
    · obtain rfl : j = n := by omega
      have hN := HN.out
      have hm : cntS (gapsL j) ≤ j := by have := cntS_le (gapsL j); rw [gapsL_length] at this; exact this
      obtain ⟨x1, x2⟩ := sgn_gaps j _ (signs_at j hN)
      obtain ⟨y1, y2⟩ := grw_gaps j hN
      have hsz : (⟨(grw j (gapsL j)).toArray⟩ : ByteArray).size = (grw j (gapsL j)).length := str_size _
      have hex : (⟨(grw j (gapsL j)).toArray⟩ : ByteArray).extract 0 j = S := by rw [str_take, y2]; exact HS.out
      have hgl := grw_len j (gapsL j)
      generalize (⟨(grw j (gapsL j)).toArray⟩ : ByteArray) = G at *
      have hng : j ≤ G.size := by omega
      have hngI : (j : Int) ≤ (G.size : Int) := by omega
      have hmin : min (j : Int) (G.size : Int) = (j : Int) := by omega
      clear hsz y1 y2 HC hgl
      generalize cntS (gapsL j) = m at *
      obtain ⟨A, hA⟩ : ∃ A : Int, (m : Int) - 2 * (j : Int) = A := ⟨_, rfl⟩
      have hA1 : -3000 ≤ A ∧ A ≤ 3000 := by omega
      rw [hA] at x1 x2
      have q1 : IntKind.i64.wrap (2 * (j : Int)) = 2 * (j : Int) := IntWalk.i64_in _ (by omega)
      have q2 : IntKind.i64.wrap ((m : Int) - 2 * (j : Int)) = A := by rw [IntWalk.i64_in _ (by omega), hA]
      have m1 : ∀ z, Calls Tryd.prog 17 #[.agg #[.int .i64 A, .int .i64 j], .agg #[.int .i64 1, .int .i64 0]] z fun e w' => e = .returned (.agg (gv (A - 1, (j : Int)))) ∧ Keeps z w' := fun z => by
        have h := refMinus_v (A, (j : Int)) (1, 0) (by unfold sm2 sm; simp only; omega) (by unfold sm2 sm; simp) z
        have e : minusG (A, (j : Int)) (1, 0) = (A - 1, (j : Int)) := by unfold minusG; simp
        rw [e] at h
        exact h
      have p1 : ∀ z, Calls Tryd.prog 18 #[.agg #[.int .i64 A, .int .i64 j], .agg #[.int .i64 1, .int .i64 0]] z fun e w' => e = .returned (.agg (gv (A + 1, (j : Int)))) ∧ Keeps z w' := fun z => by
        have h := refPlus_v (A, (j : Int)) (1, 0) (by unfold sm2 sm; simp only; omega) (by unfold sm2 sm; simp) z
        simp only [Int.add_zero] at h
        exact h
      have g1 := fun z => refSign_v (A - 1, (j : Int)) (by unfold sm2 sm; simp only; omega) z
      have g2 := fun z => refSign_v (A + 1, (j : Int)) (by unfold sm2 sm; simp only; omega) z
      simp only at g1 g2
      generalize sgn (A - 1) (j : Int) = X1 at *
      generalize sgn (A + 1) (j : Int) = X2 at *
      have d1 : decide (X1 < 0) = true := by simpa using x1
      have d2 : decide (0 < X2) = true := by simpa using x2
      clear hA hA1 x1 x2 hm hN
      have f1 := At.new w3 23 (gv (0, 0))
      have f2 := f1.row (gv (A, (j : Int)))
      have k3 := below_row (Keeps.alloc hb (.cells (gv (0, 0)) 23)) hb.size (gv (A, (j : Int)))
      go_wp2_with (first
        | (refine wpList_store_row rfl 23 _ _ rfl (w3.heap.size) (gv (A, (j : Int))) rfl rfl 23 (gv (0, 0)) f1 (sizeV _) rfl (oneV _) ?_)
        | (refine load_row_w rfl 23 _ rfl _ rfl 23 #[.int .i64 A, .int .i64 (j : Int)] _ _ f2 Tryd.underlying23 rfl (sizeG _ _) ?_)
        | (refine load_row_w rfl 23 _ rfl _ rfl 23 #[.int .i64 A, .int .i64 (j : Int)] _ _ f4 Tryd.underlying23 rfl (sizeG _ _) ?_)
        | (go_at_call 17; refine (m1 _).mono ?_; rintro e w4 ⟨rfl, b4⟩; have f3 := f2.later b4; have k4 := Keeps.next k3 b4; clear m1 f2)
        | (go_at_call 14; (with_reducible refine (g1 _).mono ?_); rintro e w5 ⟨rfl, b5⟩; have f4 := f3.later b5; have k5 := Keeps.next k4 b5; clear g1 f3)
        | (go_at_call 18; refine (p1 _).mono ?_; rintro e w6 ⟨rfl, b6⟩; have k6 := Keeps.next k5 b6; clear p1)
        | (go_at_call 14; (with_reducible refine (g2 _).mono ?_); rintro e w7 ⟨rfl, b7⟩; have k7 := Keeps.next k6 b7; clear g2)
        | (go_at_call 10; refine (aw _).mono ?_; rintro e w9 ⟨rfl, b9⟩))
      go_ret
      exact ⟨rfl, Keeps.next k7 b9⟩
end Go.Proofs.YtioaopmoljoieaaDoor
