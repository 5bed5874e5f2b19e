/- The law StudShifted. -/
import Derived.Test.YtcbcjmckjnbehaaVd
namespace Go.Proofs.Ytcbcjmckjnbehaa
open Go.RowKit
set_option linter.unusedVariables false

theorem half_ev : ((List.range 18).all fun p => !primeB p || (List.range p).all fun g => !rootB p g || (List.range (p - 1)).all fun i => decide (pwr p g i + pwr p g ((i + (p - 1) / 2) % (p - 1)) = p)) = true := by decide +kernel
theorem half_of (p g i : Nat) (hp : primeB p = true) (hr : rootB p g = true) (hi : i < p - 1) : pwr p g i + pwr p g ((i + (p - 1) / 2) % (p - 1)) = p := by
  have hp17 : 3 ≤ p ∧ p ≤ 17 := by simp [primeB] at hp; omega
  have hg : 1 ≤ g ∧ g < p := by simp [rootB] at hr; omega
  have h2 := List.all_eq_true.1 half_ev p (List.mem_range.2 (by omega))
  rw [hp, Bool.not_true, Bool.false_or] at h2
  have h3 := List.all_eq_true.1 h2 g (List.mem_range.2 hg.2)
  rw [hr, Bool.not_true, Bool.false_or] at h3
  simpa only [decide_eq_true_eq] using List.all_eq_true.1 h3 i (List.mem_range.2 hi)
theorem tmod_nat (a b : Int) (m n : Nat) (ha : a = m) (hb : b = n) : a.tmod b = ((m % n : Nat) : Int) := by
  subst ha; subst hb
  rw [Int.tmod_eq_emod_of_nonneg (by omega)]; exact (Int.natCast_emod m n).symm
set_option maxHeartbeats 4000000 in
set_option maxRecDepth 100000 in
theorem law_shifted (p g s : Int) (w : World) (hp0 : (Lit.int .i64 p).wf = true) (hg0 : (Lit.int .i64 g).wf = true) (hs0 : (Lit.int .i64 s).wf = true) :
    Calls Try.prog 7 #[.int .i64 p, .int .i64 g, .int .i64 s] w fun e w' => e = .returned (.bool true) ∧ Keeps w w' := by
  have hpr := fun x => prime_c p g 0 hp0 hg0 (by decide) x
  clear hp0 hg0
  go_enter Try.func7, Try.ntmps7
  go_wp2_with fail
  refine (hpr _).mono ?_
  rintro e w1 ⟨P, G, H, rfl, hP, hG, hH, hb1⟩
  clear hpr hH
  have hP17 : 3 ≤ P ∧ P ≤ 17 := by simp [primeB] at hP; omega
  have hmod := fun x => mod_c s ((P : Int) - 1) hs0 (by omega) (by omega) x
  obtain ⟨m0, m1⟩ := modN_in s ((P : Int) - 1) (by omega)
  generalize modN s ((P : Int) - 1) = mi at *
  obtain ⟨t, rfl⟩ := Int.eq_ofNat_of_zero_le m0
  have ht : t + 2 ≤ P := by omega
  have hpw := fun x => powers_yes P G 0 hP hG (by omega) x
  have hpt := fun x => powers_yes P G t hP hG ht x
  have hl1 := powL_length P G 0
  have hl2 := powL_length P G t
  obtain ⟨p3, p17⟩ := hP17
  have hv1 : ∀ i, i < P - 1 → nth (powL P G 0) i = (pwr P G i : Int) - 1 := fun i hi => by rw [powL_at _ _ _ _ hi, Nat.add_zero, Nat.mod_eq_of_lt hi]
  have hv2 : ∀ i, i < P - 1 → nth (powL P G t) i = nth (powL P G 0) ((i + t) % (P - 1)) := fun i hi => by rw [powL_at _ _ _ _ hi, hv1 _ (Nat.mod_lt _ (by omega))]
  have hv3 : ∀ i, i < P - 1 → nth (powL P G 0) i + nth (powL P G 0) ((i + (P - 1) / 2) % (P - 1)) = (P : Int) - 2 := fun i hi => by
    rw [hv1 _ hi, hv1 _ (Nat.mod_lt _ (by omega))]; have := half_of P G i hP hG hi; omega
  have hv4 : ∀ i, i < P - 1 → 0 ≤ nth (powL P G 0) i + 1 ∧ nth (powL P G 0) i < P := fun i hi => by
    rw [hv1 _ hi]; have := pwr_lt P G (by omega) i; omega
  generalize powL P G 0 = L at *
  generalize powL P G t = M at *
  have Hl1 := Lib.hid hl1
  have Hl2 := Lib.hid hl2
  have Hv2 := Lib.hid hv2
  have Hv3 := Lib.hid hv3
  have Hv4 := Lib.hid hv4
  have q1 : ((P - 1 : Nat) : Int) = (P : Int) - 1 := by omega
  clear hP hG hl1 hl2 hs0 m0 m1 hv1 hv2 hv3 hv4
  go_wp2_with (go_at_call 20; refine (hmod _).mono ?_; rintro e w2 ⟨rfl, rfl⟩)
  refine (hpw _).mono ?_
  rintro e w3 ⟨ba, rfl, -, hu, hb3⟩
  have hk3 := Keeps.next hb1 hb3
  go_wp2_with fail
  refine (hpt _).mono ?_
  rintro e w4 ⟨bb, rfl, hbb, hv, hb4⟩
  have hk4 := Keeps.next hk3 hb4
  have hu4 := hu.later hb4
  clear hu hpw hpt hmod
  go_wp2_with fail
  go_loopw [12] (fun i wr => ∃ k : Nat, k ≤ P - 1 ∧ i = .int .i64 k ∧ ∃ m, wr = w4.drewN m) (fun i _ => P - (intOf i).toNat)
  case atStart => exact ⟨0, Nat.zero_le _, rfl, 0, rfl⟩
  case round =>
    obtain ⟨k, hk, rfl, m, rfl⟩ := hrel
    by_cases hlt : k < P - 1
    · have e1 := Lib.hid (Hv2.out k hlt)
      have e2 := Lib.hid (Hv3.out k hlt)
      obtain ⟨a1, ha1⟩ : ∃ a1, a1 = (k + t) % (P - 1) := ⟨_, rfl⟩
      obtain ⟨a2, ha2⟩ : ∃ a2, a2 = (k + (P - 1) / 2) % (P - 1) := ⟨_, rfl⟩
      have l1 : a1 < P - 1 := by rw [ha1]; exact Nat.mod_lt _ (by omega)
      have l2 : a2 < P - 1 := by rw [ha2]; exact Nat.mod_lt _ (by omega)
      have c1 := hv.int k (by rw [Hl2.out]; exact hlt)
      have c2 := hu4.int a1 (by rw [Hl1.out]; exact l1)
      have c3 := hu4.int k (by rw [Hl1.out]; exact hlt)
      have c4 := hu4.int a2 (by rw [Hl1.out]; exact l2)
      rw [e1.out, ← ha1] at c1
      have e3 := e2.out
      rw [← ha2] at e3
      have i1 := Hv4.out k hlt
      have i2 := Hv4.out a2 l2
      have i3 := Hv4.out a1 l1
      generalize nth L a1 = y at *
      generalize nth L k = x at *
      generalize nth L a2 = z at *
      obtain ⟨hf, hhf⟩ : ∃ hf, hf = (P - 1) / 2 := ⟨_, rfl⟩
      have r1 : IntKind.i64.wrap ((k : Int) + t) = (k : Int) + t := IntWalk.i64_in _ (by omega)
      have r2 : IntKind.i64.wrap ((P : Int) - 1) = (P : Int) - 1 := IntWalk.i64_in _ (by omega)
      have r3 : ((k : Int) + t).tmod ((P : Int) - 1) = (a1 : Int) := by rw [ha1]; exact tmod_nat _ _ (k + t) (P - 1) (by omega) (by omega)
      have r4 : ((P : Int) - 1).tdiv 2 = (hf : Int) := by rw [Int.tdiv_eq_ediv_of_nonneg (by omega)]; omega
      have r5 : IntKind.i64.wrap ((k : Int) + hf) = (k : Int) + hf := IntWalk.i64_in _ (by omega)
      have r6 : ((k : Int) + hf).tmod ((P : Int) - 1) = (a2 : Int) := by rw [ha2, ← hhf]; exact tmod_nat _ _ (k + hf) (P - 1) (by omega) (by omega)
      have r7 : IntKind.i64.wrap (x + z) = x + z := IntWalk.i64_in _ (by omega)
      have r8 : IntKind.i64.wrap ((P : Int) - 2) = (P : Int) - 2 := IntWalk.i64_in _ (by omega)
      have r9 : (x + z != (P : Int) - 2) = false := by simp [e3]
      have r10 : ((P : Int) - 1 == 0) = false := by simp; omega
      have r11 : IntKind.i64.wrap (hf : Int) = hf := IntWalk.i64_in _ (by omega)
      have r12 : IntKind.i64.wrap (a1 : Int) = a1 := IntWalk.i64_in _ (by omega)
      have r13 : IntKind.i64.wrap (a2 : Int) = a2 := IntWalk.i64_in _ (by omega)
      have r14 : (y != y) = false := by simp
      have l3 : (k : Int) < (P : Int) - 1 := by omega
      clear e1 e2 e3 i1 i2 i3 ha1 ha2 hhf Hv2 Hv3 Hv4 hu4 hv
      go_wp2_with fail
      refine wp_region_quiet_lit (by kernel_rfl) (by kernel_rfl) ?_
      iterate 35 go_big_quiet_step (fail)
      refine wpQuiet_nil ?_
      intro _ hw'
      obtain ⟨nq, hw''⟩ := hw'
      subst hw''
      clear r1 r2 r3 r4 r5 r6 r7 r8 r9 r10 r11 r12 r13 c1 c2 c3 c4
      go_wp2_with fail
      go_roundw
      case rel => exact ⟨k + 1, by omega, by go_num, m + nq, by first | rfl | exact World.drewN_drewN _ _ _⟩
      case measure => simp [intOf]; omega
    · have hk2 : decide ((k : Int) < (P : Int) - 1) = false := by simp; omega
      clear Hv2 Hv3 Hv4
      go_wp2_with (go_at_call 11; refine (awake_c _).mono ?_; rintro e w11 ⟨rfl, hb11⟩)
      go_ret
      exact ⟨rfl, Keeps.next (below_drewN hk4) hb11⟩
end Go.Proofs.Ytcbcjmckjnbehaa
