/- The reference's Gcd; the law of Coprime. -/
import Derived.Test.YteffkcnlipdgaaaDoorWc
import Derived.Test.YteffkcnlipdgaaaDoorMb
import Derived.Test.YteffkcnlipdgaaaDoorWh
namespace Go.Proofs.YteffkcnlipdgaaaDoor
open Go.RowKit
set_option linter.unusedVariables false
set_option linter.unusedSimpArgs false

set_option maxHeartbeats 2000000 in
theorem Gcd_c (x y : Int) (hx : bd x) (hy : bd y) (w : World) : Calls Tryd.prog 16 #[.int .i64 x, .int .i64 y] w fun e w' => e = .returned (.int .i64 (Int.gcd x y)) ∧ Keeps w w' := by
  go_enter Tryd.func16, Tryd.ntmps16
  go_wp2_with fail
  go_loopw [0, 1] (fun s0 s1 wr => ∃ a b : Int, s0 = .int .i64 a ∧ s1 = .int .i64 b ∧ bd a ∧ bd b ∧ Int.gcd a b = Int.gcd x y ∧ Keeps w wr) (fun _ s1 _ => (intOf s1).toNat)
  case atStart => exact ⟨x, y, rfl, rfl, hx, hy, rfl, Below.refl _ _⟩
  case round =>
    obtain ⟨a, b, rfl, rfl, ha, hb, hg, hk⟩ := hrel
    by_cases h0 : 0 < b
    · have hs := gcd_step a b
      have h1 := Int.tmod_nonneg b ha.1
      have h2 := Int.tmod_lt_of_pos a h0
      have hb2 := hb
      unfold bd at hb2
      have q1 : IntKind.i64.wrap (a.tmod b) = a.tmod b := IntWalk.i64_in _ (by omega)
      have Ht := Lib.hid (Int.tmod_eq_emod_of_nonneg (b := b) ha.1)
      have hb3 : bd (a.tmod b) := ⟨h1, by omega⟩
      have Hg := Lib.hid (hs.trans hg)
      have H2 := Lib.hid h2
      have H1 := Lib.hid h1
      have ha0 := ha.1
      have hbn : b ≠ 0 := by omega
      clear hs h1 h2 hg hb2 hx hy
      go_wp2_with fail
      go_roundw
      case rel => exact ⟨b, a.tmod b, rfl, by first | rfl | rw [Ht.out], hb, hb3, Hg.out, hk⟩
      case measure =>
        have h1 := H1.out
        have h2 := H2.out
        have h3 := Ht.out
        simp [intOf]
        omega
    · have hb0 : b = 0 := by unfold bd at hb; omega
      subst hb0
      have hga : ((Int.gcd a 0 : Nat) : Int) = a := by rw [Int.gcd_zero_right]; have := ha.1; omega
      rw [hg] at hga
      have Hga := Lib.hid hga
      clear hg hga
      go_wp2_with fail
      go_ret
      exact ⟨by rw [Hga.out]; rfl, hk⟩
set_option maxHeartbeats 8000000 in
set_option maxRecDepth 20000 in
theorem law_coprime (s : ByteArray) (w : World) (hs : s.size ≤ maxLen) : Calls Tryd.prog 4 #[.string s] w fun e w' => e = .returned (.bool true) ∧ Keeps w w' := by
  have cA := fun W => awake_c W
  go_enter Tryd.func4, Tryd.ntmps4
  go_upto_region 2 with (go_at_call 9; refine (tame_c s hs _).mono ?_; rintro e w1 ⟨⟨p, t, hp1, hp2, hp3, rfl⟩, h1⟩; obtain ⟨x, y, z⟩ := t; simp only)
  have hmem := fol_mem _ _ _ start_mem hp3
  have ht := List.all_eq_true.1 trisT _ hmem
  have hgc := List.all_eq_true.1 gcdsT _ hmem
  unfold okTri at ht
  unfold okGcd at hgc
  simp only [Bool.and_eq_true, decide_eq_true_eq, beq_iff_eq] at ht hgc
  have hbd := ((trB_iff _ _ _).1 ht.1).bds
  have cF := fun W => Follow_c p (by unfold pathB; rw [hp2, decide_eq_true hp1]; rfl) W
  rw [hp3] at cF
  simp only [FolR] at cF
  have cT := fun W => refTriple_c x y z W
  rw [ht.1] at cT
  have cG1 := fun W => Gcd_c y z hbd.2.1 hbd.2.2 W
  have cG2 := fun W => Gcd_c x y hbd.1 hbd.2.1 W
  have cG3 := fun W => Gcd_c x z hbd.1 hbd.2.2 W
  rw [hgc.1] at cG1
  rw [hgc.2.1] at cG2
  rw [hgc.2.2] at cG3
  have k1 : Keeps w (w1.alloc (.cells #[.int .i64 x, .int .i64 y, .int .i64 z] 22)) := Keeps.alloc h1 _
  generalize w1.alloc (.cells #[.int .i64 x, .int .i64 y, .int .i64 z] 22) = Z at *
  clear hmem hp1 hp2 hp3 ht hgc hbd
  go_wp2_with (first
    | (go_at_call 15; refine (cF _).mono ?_; rintro e w2 ⟨rfl, h2⟩; have k2 : Keeps w (w2.alloc (.cells #[.int .i64 x, .int .i64 y, .int .i64 z] 22)) := Keeps.alloc (Keeps.next k1 h2) _; have hF2 := At.new w2 22 #[.int .i64 x, .int .i64 y, .int .i64 z])
    | (go_at_call 14; refine (cT _).mono ?_; rintro e w3 ⟨rfl, h3⟩; have k3 := Keeps.next k2 h3; have hF3 := hF2.later h3; have p1 := (row_six hF3).1; have p2 := (row_six hF3).2.1; have p3 := (row_six hF3).2.2.1)
    | (go_at_call 16; (with_reducible refine (cG1 _).mono ?_); rintro e w4 ⟨rfl, h4⟩; have k4 := Keeps.next k3 h4; have hF4 := hF3.later h4; have q1 := (row_six hF4).1; have q2 := (row_six hF4).2.1; have q3 := (row_six hF4).2.2.1)
    | (go_at_call 16; (with_reducible refine (cG2 _).mono ?_); rintro e w5 ⟨rfl, h5⟩; have k5 := Keeps.next k4 h5; have hF5 := hF4.later h5; have r1 := (row_six hF5).1; have r2 := (row_six hF5).2.1; have r3 := (row_six hF5).2.2.1)
    | (go_at_call 16; (with_reducible refine (cG3 _).mono ?_); rintro e w6 ⟨rfl, h6⟩; have k6 := Keeps.next k5 h6)
    | (go_at_call 12; refine (cA _).mono ?_; rintro e w7 ⟨rfl, h7⟩; have k7 := Keeps.next k6 h7))
  go_ret
  exact ⟨rfl, k7⟩
end Go.Proofs.YteffkcnlipdgaaaDoor
