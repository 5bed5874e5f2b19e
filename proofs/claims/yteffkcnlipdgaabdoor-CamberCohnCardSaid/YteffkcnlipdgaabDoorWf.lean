/- The law of Cohn. -/
import Derived.Test.YteffkcnlipdgaabDoorWc
import Derived.Test.YteffkcnlipdgaabDoorMc
namespace Go.Proofs.YteffkcnlipdgaabDoor
open Go.RowKit
set_option linter.unusedVariables false
set_option linter.unusedSimpArgs false

set_option maxHeartbeats 8000000 in
set_option maxRecDepth 20000 in
theorem law_cohn (s : ByteArray) (w : World) (hs : s.size ≤ maxLen) : Calls Tryd.prog 4 #[.string s] w fun e w' => e = .returned (.bool true) ∧ Keeps w w' := by
  have cA := fun W => awake_c W
  go_enter Tryd.func4, Tryd.ntmps4
  go_upto_region 2 with (go_at_call 10; refine (tame_c s hs _).mono ?_; rintro e w1 ⟨⟨p, t, hp1, hp2, hp3, rfl⟩, h1⟩; obtain ⟨x, y, z⟩ := t; simp only)
  have hmem := fol_mem _ _ _ start_mem hp3
  have ht := List.all_eq_true.1 trisT _ hmem
  have hc := cohn_fol p.data.toList (x, y, z) (by rw [Array.length_toList]; exact hp1) hp2 hp3
  unfold okTri at ht
  unfold okCohn at hc
  rw [show (wrdP p.data.toList).1 ++ (wrdP p.data.toList).2 = wrd p.data.toList from rfl] at hc
  simp only [Bool.and_eq_true, decide_eq_true_eq] at ht hc
  have hzb := ((trB_iff _ _ _).1 ht.1).1.2.2.2
  have hz5 := ht.2.2
  obtain ⟨⟨hl, hab⟩, hm⟩ := hc
  have cW := fun W => Word_yes p (by unfold pathB; rw [hp2, decide_eq_true hp1]; rfl) hl W
  generalize wrd p.data.toList = L at *
  have hph : phraseB ⟨L.toArray⟩ = true := by
    unfold phraseB
    rw [Bool.and_eq_true]
    exact ⟨decide_eq_true (by show L.toArray.size ≤ 40; rw [List.size_toArray]; exact hl), hab⟩
  have cM := fun W => Matrix_c ⟨L.toArray⟩ hph W
  cases hmf : matF (1, 0, 0, 1) L with
  | none => rw [hmf] at hm; cases hm
  | some m =>
    rw [hmf] at hm
    obtain ⟨m1, m2, m3, m4⟩ := m
    simp only [Bool.and_eq_true, decide_eq_true_eq] at hm
    obtain ⟨⟨e1, e2⟩, ⟨b1, b2⟩, b3, b4⟩ := hm
    rw [show matF (1, 0, 0, 1) (ByteArray.mk L.toArray).data.toList = _ from hmf] at cM
    simp only [MatR, mv] at cM
    have hX := At.new w1 33 #[.int .i64 x, .int .i64 y, .int .i64 z]
    have k1 : Keeps w (w1.alloc (.cells #[.int .i64 x, .int .i64 y, .int .i64 z] 33)) := Keeps.alloc h1 _
    generalize w1.alloc (.cells #[.int .i64 x, .int .i64 y, .int .i64 z] 33) = Z at *
    generalize (⟨L.toArray⟩ : ByteArray) = LB at *
    have q0 : IntKind.i64.wrap (m1 + m4) = m1 + m4 := IntWalk.i64_in _ (by omega)
    have q1 : IntKind.i64.wrap (3 * z) = 3 * z := IntWalk.i64_in _ (by omega)
    have g1 : (m2 == z) = true := by simpa using e1
    have g2 : decide (m1 < 2305843009213693952) = true := by simp; omega
    have g3 : decide (m4 < 2305843009213693952) = true := by simp; omega
    have g4 : (m1 + m4 == 3 * z) = true := by simpa using e2
    clear e1 e2 b1 b2 b3 b4 hmf hph hl hab hp1 hp2 hp3 hmem ht hz5 hzb
    go_wp2_with (first
      | (go_at_call 6; refine (cW _).mono ?_; rintro e w2 ⟨rfl, h2⟩; have k2 := Keeps.next k1 h2; have hX2 := hX.later h2)
      | (go_at_call 11; refine (cM _).mono ?_; rintro e w3 ⟨rfl, h3⟩; have k3 : Keeps w (w3.alloc (.cells #[.int .i64 m1, .int .i64 m2, .int .i64 m3, .int .i64 m4] 36)) := Keeps.alloc (Keeps.next k2 h3) _; have hX3 := (hX2.later h3).alloc (.cells #[.int .i64 m1, .int .i64 m2, .int .i64 m3, .int .i64 m4] 36); have hM3 := At.new w3 36 #[.int .i64 m1, .int .i64 m2, .int .i64 m3, .int .i64 m4]; have p1 := (row_six hX3).1; have p2 := (row_six hX3).2.1; have p3 := (row_six hX3).2.2.1; have r1 := (row_mv (m := (m1, m2, m3, m4)) hM3).1; have r2 := (row_mv (m := (m1, m2, m3, m4)) hM3).2.1; have r3 := (row_mv (m := (m1, m2, m3, m4)) hM3).2.2.1; have r4 := (row_mv (m := (m1, m2, m3, m4)) hM3).2.2.2)
      | (go_at_call 9; refine (cA _).mono ?_; rintro e w4 ⟨rfl, h4⟩; have k4 := Keeps.next k3 h4))
    go_ret
    exact ⟨rfl, k4⟩
end Go.Proofs.YteffkcnlipdgaabDoor
