/- The law GaugeOnce. -/
import Derived.Test.YtfekggmdhmkemaaDoorZC
namespace Go.Proofs.YtfekggmdhmkemaaDoor
open Go.RowKit
set_option linter.unusedVariables false
set_option linter.unusedSimpArgs false

theorem cat_c (l : List UInt8) (h : l.length ≤ 1000) (W : World) : (Op.stringOp .add ⟨l.toArray⟩ ⟨#[48]⟩).run Tryd.prog W = .ok (.string ⟨(l ++ [48]).toArray⟩) W := by
  have := run_string_add_sum (P := Tryd.prog) (w := W) ⟨l.toArray⟩ ⟨[48].toArray⟩ (by rw [arr_size, arr_size]; simp; omega)
  rw [show (⟨l.toArray⟩ : ByteArray) ++ (⟨[48].toArray⟩ : ByteArray) = ⟨(l ++ [48]).toArray⟩ by
    apply ByteArray.ext
    rw [ByteArray.data_append]
    simp] at this
  exact this
theorem cat_front (l : List UInt8) (h : l.length ≤ 1000) (W : World) : (Op.stringOp .add ⟨#[48]⟩ ⟨l.toArray⟩).run Tryd.prog W = .ok (.string ⟨(wd l 0).toArray⟩) W := by
  have := run_string_add_sum (P := Tryd.prog) (w := W) ⟨[48].toArray⟩ ⟨l.toArray⟩ (by rw [arr_size, arr_size]; simp; omega)
  rw [show (⟨[48].toArray⟩ : ByteArray) ++ (⟨l.toArray⟩ : ByteArray) = ⟨(wd l 0).toArray⟩ by
    apply ByteArray.ext
    rw [ByteArray.data_append]
    simp [wd]] at this
  exact this
theorem most12 (a0 : Int) : 1 ≤ (1 + modN a0 12).toNat ∧ (1 + modN a0 12).toNat ≤ 12 := by
  have := modN_in a0 12 (by decide)
  omega
set_option maxHeartbeats 8000000 in
set_option maxRecDepth 100000 in
theorem once_true (s : ByteArray) (at1 : Int) (w : World) (hs : s.size ≤ maxLen) (hB : plB (txW s.data.toList (1 + modN at1 12).toNat 2) = true) :
    Calls Tryd.prog 5 #[.string s, .int .i64 at1] w fun e w' => e = .returned (.bool true) ∧ Keeps w w' := by
  have aw := fun z => awake_c z
  have c1 : ∀ z, Calls Tryd.prog 18 #[.string s, .int .i64 at1, .int .i64 2] z fun e w' => e = .returned (.string ⟨(txW s.data.toList (1 + modN at1 12).toNat 2).toArray⟩) ∧ Keeps z w' := fun z => lawText_c s hs at1 2 (.inl rfl) z
  have m1 := most12 at1
  obtain ⟨F, G, hp, f1, g1, -, l1⟩ := law_prs s.data.toList _ 2 m1.1 m1.2 (.inl rfl)
  generalize txW s.data.toList (1 + modN at1 12).toNat 2 = A at *
  have vx := val_in A F G hp (by omega) g1
  have nx := val_nn A F G hp
  obtain ⟨h80, ok1⟩ := dig_80 A F G hp
  have rA := text_yes ⟨A.toArray⟩ (by rw [arr_size]; omega) F G (by rw [arr_list]; exact hp)
  have bX := num_of (sm2_mono vx (show (400000 : Int) ≤ 1000000 by decide))
  have cVA := fun z => Value_ok ⟨A.toArray⟩ (digL F G) h80 ok1 rA z
  rw [nofV, nofE, bX, if_pos rfl, if_pos rfl] at cVA
  have cPA := fun z => Plain_ok ⟨A.toArray⟩ (valG (digL F G)) (sm2_of bX) cVA z
  obtain ⟨G2, hw, ev, lw⟩ := wd_end A F G hp (by omega) g1
  obtain ⟨h82, ok3⟩ := dig_80 _ _ _ hw
  have rW := text_yes ⟨(wd A A.length).toArray⟩ (by rw [arr_size]; omega) _ _ (by rw [arr_list]; exact hw)
  have cW := fun z => Value_ok ⟨(wd A A.length).toArray⟩ (digL (48 :: F) G2) h82 ok3 rW z
  rw [ev, nofV, nofE, bX, if_pos rfl, if_pos rfl] at cW
  have hEQ : textG (valG (digL F G)) = A := once_text A F G hp hB
  generalize valG (digL F G) = x at *
  obtain ⟨n, F3, G3, hu, hv, -, -, -, l3, -, hpl, -, -, -, -⟩ := back_facts x (sm2_mono vx (by decide)) nx
  obtain ⟨h83, ok4⟩ := dig_80 _ F3 G3 hu
  have rU := text_yes ⟨(textG x).toArray⟩ (by rw [arr_size]; omega) F3 G3 (by rw [arr_list]; exact hu)
  have cVU := fun z => Value_ok ⟨(textG x).toArray⟩ (digL F3 G3) h83 ok4 rU z
  rw [hv, nofV, nofE, bX, if_pos rfl, if_pos rfl] at cVU
  have cI := fun z => isPlain_any ⟨(textG x).toArray⟩ (by rw [arr_size]; unfold maxLen; omega) z
  rw [arr_list, hpl] at cI
  have hz : (⟨A.toArray⟩ : ByteArray).size = A.length := arr_size A
  have h46 : ∀ (j : Nat) (h : j < (⟨A.toArray⟩ : ByteArray).size), (((⟨A.toArray⟩ : ByteArray)[j].toNat : Int) == 46) = decide (A[j]?.getD 0 = 46) := fun j h => by
    have e1 := u8_eq (⟨A.toArray⟩ : ByteArray)[j] 46
    rw [show ((46 : UInt8).toNat : Int) = 46 from rfl] at e1
    rw [e1]
    have hj : j < A.length := by rw [← hz]; exact h
    rw [List.getElem?_eq_getElem hj]
    rfl
  have s1 := fun W => cat_front A (by omega) W
  have s2 : ∀ (j : Nat), j ≤ A.length → ∀ W, (Op.stringOp .add ⟨(wd A j).toArray⟩ ⟨#[48]⟩).run Tryd.prog W = .ok (.string ⟨(wd A j ++ [48]).toArray⟩) W := fun j hj W => cat_c (wd A j) (by have := wd_len A j; omega) W
  rw [← hz] at cW s2
  have H46 := Lib.hid h46
  have S2 := Lib.hid s2
  have hsz : (⟨A.toArray⟩ : ByteArray).size ≤ 36 := by omega
  clear m1 hp f1 g1 l1 vx nx h80 ok1 rA bX hw ev lw h82 ok3 rW hu hv l3 hpl h83 ok4 rU hz h46 s2 hB hs
  rw [hEQ] at cPA cVU cI
  generalize (⟨A.toArray⟩ : ByteArray) = T at *
  skip
  have k0 : Keeps w w := Below.refl _ _
  go_enter Tryd.func5, Tryd.ntmps5
  go_upto_region 2 with (first
    | (go_at_call 18
       (with_reducible refine (c1 _).mono ?_)
       rintro e w1 ⟨rfl, b1⟩
       have k1 := Keeps.next k0 b1
       clear c1 k0 ))
  go_upto_region 3 with (first
    | (go_at_call 10
       (with_reducible refine (cPA _).mono ?_)
       rintro e w2 ⟨rfl, b2⟩
       have k2 := Keeps.next k1 b2
       clear cPA k1 ))
  go_upto_region 4 with (first
    | (go_at_call 9
       (with_reducible refine (cVA _).mono ?_)
       rintro e w3 ⟨rfl, b3⟩
       have t3 := At.new w3 24 (gv (0, 0))
       have v3 := t3.row (gv x)
       have dd := below_row (Keeps.alloc b3 (.cells (gv (0, 0)) 24)) b3.size (gv x)
       have k3 := Keeps.next k2 dd
       clear dd b3 k2
       clear cVA)
    | (refine wpList_store_row rfl 24 _ _ rfl w3.heap.size (gv x) rfl rfl 24 (gv (0, 0)) t3 (sizeV _) rfl (oneV _) ?_))
  clear t3
  go_upto_region 5 with (first
    | (go_at_call 9
       (with_reducible refine (cVU _).mono ?_)
       rintro e w4 ⟨rfl, b4⟩
       have t4 := At.new w4 24 (gv (0, 0))
       have v4 := t4.row (gv x)
       have dd := below_row (Keeps.alloc b4 (.cells (gv (0, 0)) 24)) b4.size (gv x)
       have v3b := v3.later dd
       have k4 := Keeps.next k3 dd
       clear dd b4 k3 v3
       clear cVU)
    | (refine wpList_store_row rfl 24 _ _ rfl w4.heap.size (gv x) rfl rfl 24 (gv (0, 0)) t4 (sizeV _) rfl (oneV _) ?_))
  clear t4
  obtain ⟨W, hW⟩ : ∃ W, (w4.alloc (.cells #[.int .i64 0, .int .i64 0] 24)).setRow w4.heap.size (gv x) = W := ⟨_, rfl⟩
  have x3 : At W w3.heap.size 24 (gv x) := by rw [← hW]; exact v3b
  have x4 : At W w4.heap.size 24 (gv x) := by rw [← hW]; exact v4
  have kW : Keeps w W := by rw [← hW]; exact k4
  rw [hW]
  clear hW v3b v4 k4
  go_upto_region 7 with (first
    | (refine load_row_w rfl 24 _ rfl _ rfl 24 #[.int .i64 x.1, .int .i64 x.2] _ _ x3 Tryd.underlying24 rfl (sizeG _ _) ?_)
    | (refine load_row_w rfl 24 _ rfl _ rfl 24 #[.int .i64 x.1, .int .i64 x.2] _ _ x4 Tryd.underlying24 rfl (sizeG _ _) ?_)
    | (go_at_call 19; with_reducible refine (cI _).mono ?_; rintro e w9 ⟨rfl, rfl⟩)
    | (go_at_call 19; with_reducible refine (cI _).mono ?_; rintro e w9 ⟨rfl, rfl⟩))
  clear x4 cI hEQ
  go_upto_region 8 with fail
  go_wp2_with fail
  clear s1
  go_loop [12, 13] (fun u j => ∃ n : Nat, n ≤ T.size ∧ j = .int .i64 n ∧ u = .string ⟨(wd A n).toArray⟩) (fun _ j => T.size - (intOf j).toNat)
  case atStart => exact ⟨0, Nat.zero_le _, rfl, rfl⟩
  case round =>
    obtain ⟨n, hn, rfl, rfl⟩ := hrel
    by_cases hlt : n < T.size
    · have e1 := H46.out n hlt
      have q1 : IntKind.i64.wrap ((n : Int) + 1) = (n : Int) + 1 := IntWalk.i64_in _ (by omega)
      have s3 := S2.out n (by omega)
      by_cases h : A[n]?.getD 0 = 46
      · have hw : wd A (n + 1) = wd A n ++ [48] := by rw [wd, if_pos h]
        rw [decide_eq_true h] at e1
        have HW := Lib.hid hw
        clear hw h
        go_wp2_with fail
        exact ⟨⟨n + 1, by omega, by go_num, by rw [HW.out]⟩, by simp [intOf]; omega⟩
      · have hw : wd A (n + 1) = wd A n := by rw [wd, if_neg h]
        rw [decide_eq_false h] at e1
        have HW := Lib.hid hw
        clear hw h s3
        go_wp2_with fail
        exact ⟨⟨n + 1, by omega, by go_num, by rw [HW.out]⟩, by simp [intOf]; omega⟩
    · obtain rfl : n = T.size := by omega
      clear hlt hn
      go_upto_region 14 with (first
        | (go_at_call 9
           (with_reducible refine (cW _).mono ?_)
           rintro e w6 ⟨rfl, b6⟩
           have t6 := At.new w6 24 (gv (0, 0))
           have v6 := t6.row (gv x)
           have dd := below_row (Keeps.alloc b6 (.cells (gv (0, 0)) 24)) b6.size (gv x)
           have x3b := x3.later dd
           have k6 := Keeps.next kW dd
           clear dd b6 kW x3
           clear cW)
        | (refine wpList_store_row rfl 24 _ _ rfl w6.heap.size (gv x) rfl rfl 24 (gv (0, 0)) t6 (sizeV _) rfl (oneV _) ?_))
      clear t6 S2 H46
      obtain ⟨W6, hW6⟩ : ∃ W6, (w6.alloc (.cells #[.int .i64 0, .int .i64 0] 24)).setRow w6.heap.size (gv x) = W6 := ⟨_, rfl⟩
      have y6 : At W6 w6.heap.size 24 (gv x) := by rw [← hW6]; exact v6
      have y3 : At W6 w3.heap.size 24 (gv x) := by rw [← hW6]; exact x3b
      have k6 : Keeps w W6 := by rw [← hW6]; exact k6
      rw [hW6]
      clear hW6 v6 x3b
      go_wp2_with (first
        | (refine load_row_w rfl 24 _ rfl _ rfl 24 #[.int .i64 x.1, .int .i64 x.2] _ _ y6 Tryd.underlying24 rfl (sizeG _ _) ?_)
        | (refine load_row_w rfl 24 _ rfl _ rfl 24 #[.int .i64 x.1, .int .i64 x.2] _ _ y3 Tryd.underlying24 rfl (sizeG _ _) ?_)
        | (go_at_call 12
           (with_reducible refine (aw _).mono ?_)
           rintro e w7 ⟨rfl, b7⟩
           have k7 := Keeps.next k6 b7
           clear aw k6 ))
      go_ret
      exact ⟨rfl, k7⟩
set_option maxHeartbeats 8000000 in
set_option maxRecDepth 100000 in
theorem once_false (s : ByteArray) (at1 : Int) (w : World) (hs : s.size ≤ maxLen) (hB : plB (txW s.data.toList (1 + modN at1 12).toNat 2) = false) :
    Calls Tryd.prog 5 #[.string s, .int .i64 at1] w fun e w' => e = .returned (.bool true) ∧ Keeps w w' := by
  have aw := fun z => awake_c z
  have c1 : ∀ z, Calls Tryd.prog 18 #[.string s, .int .i64 at1, .int .i64 2] z fun e w' => e = .returned (.string ⟨(txW s.data.toList (1 + modN at1 12).toNat 2).toArray⟩) ∧ Keeps z w' := fun z => lawText_c s hs at1 2 (.inl rfl) z
  have m1 := most12 at1
  obtain ⟨F, G, hp, f1, g1, -, l1⟩ := law_prs s.data.toList _ 2 m1.1 m1.2 (.inl rfl)
  generalize txW s.data.toList (1 + modN at1 12).toNat 2 = A at *
  have vx := val_in A F G hp (by omega) g1
  have nx := val_nn A F G hp
  obtain ⟨h80, ok1⟩ := dig_80 A F G hp
  have rA := text_yes ⟨A.toArray⟩ (by rw [arr_size]; omega) F G (by rw [arr_list]; exact hp)
  have bX := num_of (sm2_mono vx (show (400000 : Int) ≤ 1000000 by decide))
  have cVA := fun z => Value_ok ⟨A.toArray⟩ (digL F G) h80 ok1 rA z
  rw [nofV, nofE, bX, if_pos rfl, if_pos rfl] at cVA
  have cPA := fun z => Plain_ok ⟨A.toArray⟩ (valG (digL F G)) (sm2_of bX) cVA z
  have cI2 := fun z => isPlain_any ⟨A.toArray⟩ (by rw [arr_size]; unfold maxLen; omega) z
  rw [arr_list, hB] at cI2
  obtain ⟨G2, hw, ev, lw⟩ := wd_end A F G hp (by omega) g1
  obtain ⟨h82, ok3⟩ := dig_80 _ _ _ hw
  have rW := text_yes ⟨(wd A A.length).toArray⟩ (by rw [arr_size]; omega) _ _ (by rw [arr_list]; exact hw)
  have cW := fun z => Value_ok ⟨(wd A A.length).toArray⟩ (digL (48 :: F) G2) h82 ok3 rW z
  rw [ev, nofV, nofE, bX, if_pos rfl, if_pos rfl] at cW
  skip
  generalize valG (digL F G) = x at *
  obtain ⟨n, F3, G3, hu, hv, -, -, -, l3, -, hpl, -, -, -, -⟩ := back_facts x (sm2_mono vx (by decide)) nx
  obtain ⟨h83, ok4⟩ := dig_80 _ F3 G3 hu
  have rU := text_yes ⟨(textG x).toArray⟩ (by rw [arr_size]; omega) F3 G3 (by rw [arr_list]; exact hu)
  have cVU := fun z => Value_ok ⟨(textG x).toArray⟩ (digL F3 G3) h83 ok4 rU z
  rw [hv, nofV, nofE, bX, if_pos rfl, if_pos rfl] at cVU
  have cI := fun z => isPlain_any ⟨(textG x).toArray⟩ (by rw [arr_size]; unfold maxLen; omega) z
  rw [arr_list, hpl] at cI
  have hz : (⟨A.toArray⟩ : ByteArray).size = A.length := arr_size A
  have h46 : ∀ (j : Nat) (h : j < (⟨A.toArray⟩ : ByteArray).size), (((⟨A.toArray⟩ : ByteArray)[j].toNat : Int) == 46) = decide (A[j]?.getD 0 = 46) := fun j h => by
    have e1 := u8_eq (⟨A.toArray⟩ : ByteArray)[j] 46
    rw [show ((46 : UInt8).toNat : Int) = 46 from rfl] at e1
    rw [e1]
    have hj : j < A.length := by rw [← hz]; exact h
    rw [List.getElem?_eq_getElem hj]
    rfl
  have s1 := fun W => cat_front A (by omega) W
  have s2 : ∀ (j : Nat), j ≤ A.length → ∀ W, (Op.stringOp .add ⟨(wd A j).toArray⟩ ⟨#[48]⟩).run Tryd.prog W = .ok (.string ⟨(wd A j ++ [48]).toArray⟩) W := fun j hj W => cat_c (wd A j) (by have := wd_len A j; omega) W
  rw [← hz] at cW s2
  have H46 := Lib.hid h46
  have S2 := Lib.hid s2
  have hsz : (⟨A.toArray⟩ : ByteArray).size ≤ 36 := by omega
  clear m1 hp f1 g1 l1 vx nx h80 ok1 rA bX hw ev lw h82 ok3 rW hu hv l3 hpl h83 ok4 rU hz h46 s2 hB hs
  generalize (⟨(textG x).toArray⟩ : ByteArray) = U at *
  generalize (⟨A.toArray⟩ : ByteArray) = T at *
  skip
  have k0 : Keeps w w := Below.refl _ _
  go_enter Tryd.func5, Tryd.ntmps5
  go_upto_region 2 with (first
    | (go_at_call 18
       (with_reducible refine (c1 _).mono ?_)
       rintro e w1 ⟨rfl, b1⟩
       have k1 := Keeps.next k0 b1
       clear c1 k0 ))
  go_upto_region 3 with (first
    | (go_at_call 10
       (with_reducible refine (cPA _).mono ?_)
       rintro e w2 ⟨rfl, b2⟩
       have k2 := Keeps.next k1 b2
       clear cPA k1 ))
  go_upto_region 4 with (first
    | (go_at_call 9
       (with_reducible refine (cVA _).mono ?_)
       rintro e w3 ⟨rfl, b3⟩
       have t3 := At.new w3 24 (gv (0, 0))
       have v3 := t3.row (gv x)
       have dd := below_row (Keeps.alloc b3 (.cells (gv (0, 0)) 24)) b3.size (gv x)
       have k3 := Keeps.next k2 dd
       clear dd b3 k2
       clear cVA)
    | (refine wpList_store_row rfl 24 _ _ rfl w3.heap.size (gv x) rfl rfl 24 (gv (0, 0)) t3 (sizeV _) rfl (oneV _) ?_))
  clear t3
  go_upto_region 5 with (first
    | (go_at_call 9
       (with_reducible refine (cVU _).mono ?_)
       rintro e w4 ⟨rfl, b4⟩
       have t4 := At.new w4 24 (gv (0, 0))
       have v4 := t4.row (gv x)
       have dd := below_row (Keeps.alloc b4 (.cells (gv (0, 0)) 24)) b4.size (gv x)
       have v3b := v3.later dd
       have k4 := Keeps.next k3 dd
       clear dd b4 k3 v3
       clear cVU)
    | (refine wpList_store_row rfl 24 _ _ rfl w4.heap.size (gv x) rfl rfl 24 (gv (0, 0)) t4 (sizeV _) rfl (oneV _) ?_))
  clear t4
  obtain ⟨W, hW⟩ : ∃ W, (w4.alloc (.cells #[.int .i64 0, .int .i64 0] 24)).setRow w4.heap.size (gv x) = W := ⟨_, rfl⟩
  have x3 : At W w3.heap.size 24 (gv x) := by rw [← hW]; exact v3b
  have x4 : At W w4.heap.size 24 (gv x) := by rw [← hW]; exact v4
  have kW : Keeps w W := by rw [← hW]; exact k4
  rw [hW]
  clear hW v3b v4 k4
  go_upto_region 7 with (first
    | (refine load_row_w rfl 24 _ rfl _ rfl 24 #[.int .i64 x.1, .int .i64 x.2] _ _ x3 Tryd.underlying24 rfl (sizeG _ _) ?_)
    | (refine load_row_w rfl 24 _ rfl _ rfl 24 #[.int .i64 x.1, .int .i64 x.2] _ _ x4 Tryd.underlying24 rfl (sizeG _ _) ?_)
    | (go_at_call 19; with_reducible refine (cI _).mono ?_; rintro e w9 ⟨rfl, rfl⟩)
    | (go_at_call 19; with_reducible refine (cI2 _).mono ?_; rintro e w9 ⟨rfl, rfl⟩))
  clear x4 cI cI2
  go_upto_region 8 with fail
  go_wp2_with fail
  clear s1
  go_loop [12, 13] (fun u j => ∃ n : Nat, n ≤ T.size ∧ j = .int .i64 n ∧ u = .string ⟨(wd A n).toArray⟩) (fun _ j => T.size - (intOf j).toNat)
  case atStart => exact ⟨0, Nat.zero_le _, rfl, rfl⟩
  case round =>
    obtain ⟨n, hn, rfl, rfl⟩ := hrel
    by_cases hlt : n < T.size
    · have e1 := H46.out n hlt
      have q1 : IntKind.i64.wrap ((n : Int) + 1) = (n : Int) + 1 := IntWalk.i64_in _ (by omega)
      have s3 := S2.out n (by omega)
      by_cases h : A[n]?.getD 0 = 46
      · have hw : wd A (n + 1) = wd A n ++ [48] := by rw [wd, if_pos h]
        rw [decide_eq_true h] at e1
        have HW := Lib.hid hw
        clear hw h
        go_wp2_with fail
        exact ⟨⟨n + 1, by omega, by go_num, by rw [HW.out]⟩, by simp [intOf]; omega⟩
      · have hw : wd A (n + 1) = wd A n := by rw [wd, if_neg h]
        rw [decide_eq_false h] at e1
        have HW := Lib.hid hw
        clear hw h s3
        go_wp2_with fail
        exact ⟨⟨n + 1, by omega, by go_num, by rw [HW.out]⟩, by simp [intOf]; omega⟩
    · obtain rfl : n = T.size := by omega
      clear hlt hn
      go_upto_region 14 with (first
        | (go_at_call 9
           (with_reducible refine (cW _).mono ?_)
           rintro e w6 ⟨rfl, b6⟩
           have t6 := At.new w6 24 (gv (0, 0))
           have v6 := t6.row (gv x)
           have dd := below_row (Keeps.alloc b6 (.cells (gv (0, 0)) 24)) b6.size (gv x)
           have x3b := x3.later dd
           have k6 := Keeps.next kW dd
           clear dd b6 kW x3
           clear cW)
        | (refine wpList_store_row rfl 24 _ _ rfl w6.heap.size (gv x) rfl rfl 24 (gv (0, 0)) t6 (sizeV _) rfl (oneV _) ?_))
      clear t6 S2 H46
      obtain ⟨W6, hW6⟩ : ∃ W6, (w6.alloc (.cells #[.int .i64 0, .int .i64 0] 24)).setRow w6.heap.size (gv x) = W6 := ⟨_, rfl⟩
      have y6 : At W6 w6.heap.size 24 (gv x) := by rw [← hW6]; exact v6
      have y3 : At W6 w3.heap.size 24 (gv x) := by rw [← hW6]; exact x3b
      have k6 : Keeps w W6 := by rw [← hW6]; exact k6
      rw [hW6]
      clear hW6 v6 x3b
      go_wp2_with (first
        | (refine load_row_w rfl 24 _ rfl _ rfl 24 #[.int .i64 x.1, .int .i64 x.2] _ _ y6 Tryd.underlying24 rfl (sizeG _ _) ?_)
        | (refine load_row_w rfl 24 _ rfl _ rfl 24 #[.int .i64 x.1, .int .i64 x.2] _ _ y3 Tryd.underlying24 rfl (sizeG _ _) ?_)
        | (go_at_call 12
           (with_reducible refine (aw _).mono ?_)
           rintro e w7 ⟨rfl, b7⟩
           have k7 := Keeps.next k6 b7
           clear aw k6 ))
      go_ret
      exact ⟨rfl, k7⟩
theorem law_once (s : ByteArray) (at1 : Int) (w : World) (hs : s.size ≤ maxLen) (_ : (Lit.int IntKind.i64 at1).wf = true) :
    Calls Tryd.prog 5 #[.string s, .int .i64 at1] w fun e w' => e = .returned (.bool true) ∧ Keeps w w' := by
  cases h : plB (txW s.data.toList (1 + modN at1 12).toNat 2)
  · exact once_false s at1 w hs h
  · exact once_true s at1 w hs h
end Go.Proofs.YtfekggmdhmkemaaDoor
