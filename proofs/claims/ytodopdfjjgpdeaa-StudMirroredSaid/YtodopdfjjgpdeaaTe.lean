/- The law Two. -/
import Derived.Test.YtodopdfjjgpdeaaTd
import Derived.Test.YtodopdfjjgpdeaaVh
import Derived.Deep.Cut
namespace Go.Proofs.Ytodopdfjjgpdeaa
open Go.RowKit Go.Shelf
set_option linter.unusedVariables false
set_option linter.unusedSimpArgs false

def fndB (L Y : List Int) (k : Nat) : Bool := (List.range k).any fun j => decide (tn3 L j = Y)
theorem fndB_succ (L Y : List Int) (k : Nat) : fndB L Y (k + 1) = (fndB L Y k || decide (tn3 L k = Y)) := by simp [fndB, List.range_succ]
theorem turn_rd (v0 : Value) (L : List Int) (n s : Nat) (hn : L.length = n) (hs : s < 8) (ho : ordB L = true) (w : World) (hv : RdI w v0 L) :
    Calls Try.prog 17 #[v0, .int .i64 s] w fun e w' => ∃ g c, e = .returned (.tuple #[.slice (some ⟨g, 0, none⟩) n c, .int .i64 0]) ∧ RdI w' (.slice (some ⟨g, 0, none⟩) n c) (tn3 L s) ∧ Keeps w w' := by
  subst hn
  refine (turn_yes v0 L s hs ho w hv).mono ?_
  rintro e w' ⟨g, c, ex, rfl, hat, -, hb⟩
  have := hat.rowA_rd c (by rw [tn3_length]; have := (ordB_in ho).2.1; omega)
  rw [tn3_length] at this
  exact ⟨g, c, rfl, this, hb⟩
set_option maxHeartbeats 4000000 in
set_option maxRecDepth 100000 in
theorem law_two (n : Int) (v0 : Value) (l : List Int) (s0 t0 : Int) (w : World) (hn : (Lit.int .i64 n).wf = true) (hv : RdI w v0 l) (hf : fits l) (hcap : Cap v0) (hs0 : (Lit.int .i64 s0).wf = true) (ht0 : (Lit.int .i64 t0).wf = true) :
    Calls Try.prog 5 #[.int .i64 n, v0, .int .i64 s0, .int .i64 t0] w fun e w' => e = .returned (.bool true) ∧ Keeps w w' := by
  have hta := tame_c n v0 l 16 (by omega) (by omega) hn w hv hf
  clear hn hv hf hcap
  have hms := fun X => mod_c s0 8 hs0 (by omega) (by omega) X
  have hmt := fun X => mod_c t0 8 ht0 (by omega) (by omega) X
  obtain ⟨a0, a1⟩ := modN_in s0 8 (by omega)
  obtain ⟨b0, b1⟩ := modN_in t0 8 (by omega)
  generalize modN s0 8 = ms at *
  generalize modN t0 8 = mt at *
  obtain ⟨s, rfl⟩ := Int.eq_ofNat_of_zero_le a0
  obtain ⟨t, rfl⟩ := Int.eq_ofNat_of_zero_le b0
  have hs : s < 8 := by omega
  have ht : t < 8 := by omega
  clear hs0 ht0 a0 a1 b0 b1
  go_enter Try.func5, Try.ntmps5
  go_upto_region 2 with (go_at_call 7; refine hta.mono ?_; rintro e w1 ⟨bL, cL, L, rfl, hLc, hl1, ho, hp7, hb1⟩)
  clear hta hLc hp7
  obtain ⟨h1, h16, hin⟩ := ordB_in ho
  have hp := Pm.of_ord ho
  have hpx := tn3_pm hp s
  have hlx := tn3_length L s
  have hox : ordB (tn3 L s) = true := hpx.ord (by omega) (by omega)
  obtain ⟨k0, hk0, hk1⟩ := tn3_two hp s t hs ht
  have hbk := tn3_back hp s hs
  have hbk8 : bkS s < 8 := by unfold bkS; split <;> omega
  have hbkv : (bkS s : Int) = if s = 5 ∨ s = 6 then 11 - (s : Int) else s := by unfold bkS; split <;> omega
  have Hk1 := Lib.hid hk1
  clear hk1 hp hpx hin
  obtain ⟨d, hd⟩ : ∃ d, L.length = d := ⟨_, rfl⟩
  have hly : (tn3 (tn3 L s) t).length = d := by rw [tn3_length, tn3_length, hd]
  rw [hd] at h1 h16 hlx hl1 ⊢
  have Hd := Lib.hid hd
  have HX : ∃ X, X = tn3 L s := ⟨_, rfl⟩
  obtain ⟨X, hX⟩ := HX
  rw [← hX] at hlx hox hbk hly
  have HX := Lib.hid hX
  obtain ⟨Y, hY⟩ : ∃ Y, Y = tn3 X t := ⟨_, rfl⟩
  rw [← hY] at hly
  have HY := Lib.hid hY
  have hro := fun v x h => rorder_c v X x h
  rw [hox] at hro
  have hBk := Lib.hid hbk
  clear hd hX hY hbk
  go_upto_region 6 with (first
    | (go_at_call 13; with_reducible refine (hms _).mono ?_; rintro e w2 ⟨rfl, rfl⟩)
    | (go_at_call 13; with_reducible refine (hmt _).mono ?_; rintro e w2 ⟨rfl, rfl⟩)
    | (go_at_call 17; refine (turn_rd _ L d s Hd.out hs ho _ hl1).mono ?_; rintro e w3 ⟨gx, cx, rfl, hx3, hb3⟩; rw [← HX.out] at hx3)
    | (go_at_call 10; refine (hro _ _ hx3).mono ?_; rintro e w4 ⟨rfl, hb4⟩))
  have hl4 := hl1.below (hb3.next hb4)
  have hx4 := hx3.below hb4
  have hk4 := hb1.next (hb3.next hb4)
  clear hms hmt hro hl1 hx3
  go_upto_region 11 with (go_at_call 17; refine (turn_rd _ X d t hlx ht hox _ hx4).mono ?_; rintro e w5 ⟨gy, cy, rfl, hy5, hb5⟩; rw [← HY.out] at hy5)
  have hl5 := hl4.below hb5
  have hx5 := hx4.below hb5
  have hk5 := hk4.next hb5
  clear hl4 hx4
  go_loopw [14, 15] (fun f i wr => ∃ k : Nat, k ≤ 8 ∧ i = .int .i64 k ∧ f = .bool (fndB L Y k) ∧ Keeps w5 wr) (fun _ i _ => 8 - (intOf i).toNat)
  case atStart => exact ⟨0, Nat.zero_le _, rfl, rfl, Below.refl _ _⟩
  case round =>
    obtain ⟨k, hk, rfl, rfl, hb⟩ := hrel
    have hlr := hl5.below hb
    have hyr := hy5.below hb
    by_cases hlt : k < 8
    · have hfs := fndB_succ L Y k
      cases hF : fndB L Y k with
      | true =>
        rw [hF, Bool.true_or] at hfs
        have Hfs := Lib.hid hfs
        clear hfs hF
        go_wp2_with (go_at_call 17; refine (turn_rd _ L d k Hd.out hlt ho _ hlr).mono ?_; rintro e w6 ⟨gz, cz, rfl, hz6, hb6⟩)
        go_roundw
        case rel => exact ⟨k + 1, by omega, by go_num, by rw [Hfs.out], hb.next hb6⟩
        case measure => simp [intOf]; omega
      | false =>
        rw [hF, Bool.false_or] at hfs
        have Hfs := Lib.hid hfs
        clear hfs hF
        go_wp2_with (first
          | (go_at_call 17; refine (turn_rd _ L d k Hd.out hlt ho _ hlr).mono ?_; rintro e w6 ⟨gz, cz, rfl, hz6, hb6⟩)
          | (go_at_call 15; refine (ints_c _ _ _ _ _ hz6 (hyr.below hb6)).mono ?_; rintro e w7 ⟨rfl, m7, rfl⟩))
        go_roundw
        case rel => exact ⟨k + 1, by omega, by go_num, by rw [Hfs.out], below_drewN (hb.next hb6)⟩
        case measure => simp [intOf]; omega
    · obtain rfl : k = 8 := by omega
      have hF : fndB L Y 8 = true := by
        unfold fndB
        refine List.any_eq_true.2 ⟨k0, List.mem_range.2 hk0, decide_eq_true ?_⟩
        rw [HY.out, HX.out]
        exact Hk1.out.symm
      have hxr := hx5.below hb
      have hkr := hk5.next hb
      rw [hF]
      clear hF
      by_cases h5 : s = 5 ∨ s = 6
      · rw [if_pos h5] at hbkv
        have q1 : IntKind.i64.wrap (11 - (s : Int)) = (bkS s : Int) := by rw [hbkv]; exact IntWalk.i64_in _ (by omega)
        rcases h5 with rfl | rfl
        all_goals
          go_upto_region 21 with (go_at_call 17; refine (turn_rd _ X d _ hlx hbk8 hox _ hxr).mono ?_; rintro e w6 ⟨gz, cz, rfl, hz6, hb6⟩; rw [hBk.out] at hz6)
          go_wp2_with (first
            | (go_at_call 15; refine (ints_same _ _ L _ hz6 (hlr.below hb6)).mono ?_; rintro e w7 ⟨rfl, hb7⟩)
            | (go_at_call 9; refine (awake_c _).mono ?_; rintro e w8 ⟨rfl, hb8⟩))
          go_ret
          exact ⟨rfl, ((hkr.next hb6).next hb7).next hb8⟩
      · rw [if_neg h5] at hbkv
        have e5 : ((s : Int) == 5) = false := by simp; omega
        have e6 : ((s : Int) == 6) = false := by simp; omega
        have hbs : bkS s = s := by omega
        rw [hbs] at hBk hbk8
        clear hbkv hbs h5
        go_upto_region 21 with (go_at_call 17; refine (turn_rd _ X d s hlx hbk8 hox _ hxr).mono ?_; rintro e w6 ⟨gz, cz, rfl, hz6, hb6⟩; rw [hBk.out] at hz6)
        go_wp2_with (first
          | (go_at_call 15; refine (ints_same _ _ L _ hz6 (hlr.below hb6)).mono ?_; rintro e w7 ⟨rfl, hb7⟩)
          | (go_at_call 9; refine (awake_c _).mono ?_; rintro e w8 ⟨rfl, hb8⟩))
        go_ret
        exact ⟨rfl, ((hkr.next hb6).next hb7).next hb8⟩
end Go.Proofs.Ytodopdfjjgpdeaa
