/- The reference's inverse. -/
import Derived.Test.YtnlogppdnfhelabDoorVc
namespace Go.Proofs.YtnlogppdnfhelabDoor
open Go.RowKit
set_option linter.unusedVariables false
set_option linter.unusedSimpArgs false

/-- The reference's steps: factors with signs. -/
def reuc : Nat → Int → Int → Int → Int → Int
  | 0, _, _, p, _ => p
  | n + 1, a, b, p, q => if b = 0 then p else reuc n b (a.tmod b) q (p - a.tdiv b * q)
theorem reuc_pm : ∀ (n : Nat) (a b f g : Int), (reuc n a b f (-g) = eucl n a b f g ∨ reuc n a b f (-g) = -eucl n a b f g) ∧ (reuc n a b (-f) g = eucl n a b f g ∨ reuc n a b (-f) g = -eucl n a b f g) := by
  intro n
  induction n with
  | zero => intro a b f g; exact ⟨Or.inl rfl, Or.inr rfl⟩
  | succ n ih =>
    intro a b f g
    unfold reuc eucl
    by_cases hb : b = 0
    · rw [if_pos hb, if_pos hb, if_pos hb]; exact ⟨Or.inl rfl, Or.inr rfl⟩
    · rw [if_neg hb, if_neg hb, if_neg hb]
      have h := ih b (a.tmod b) g (f + a.tdiv b * g)
      have e1 : f - a.tdiv b * -g = f + a.tdiv b * g := by grind
      have e2 : -f - a.tdiv b * g = -(f + a.tdiv b * g) := by grind
      rw [e1, e2]
      exact ⟨h.2, h.1⟩
theorem reuc_any : ∀ (n m : Nat) (a b p q : Int), 0 ≤ a → 0 ≤ b → b.toNat < n → b.toNat < m → reuc n a b p q = reuc m a b p q := by
  intro n
  induction n with
  | zero => intro m a b p q ha h0 h1 h2; omega
  | succ n ih =>
    intro m a b p q ha h0 h1 h2
    cases m with
    | zero => omega
    | succ m =>
      unfold reuc
      by_cases hb : b = 0
      · rw [if_pos hb, if_pos hb]
      · rw [if_neg hb, if_neg hb]
        have a2 := Int.tmod_lt_of_pos a (b := b) (by omega)
        have a3 := Int.tmod_nonneg b ha
        exact ih m _ _ _ _ h0 a3 (by omega) (by omega)
def rv (x m : Int) : Int := reuc (x.toNat + 1) m x 0 1
theorem rv_pm (x m : Int) : rv x m = inv x m ∨ rv x m = -inv x m := by
  have := (reuc_pm (x.toNat + 1) m x 0 1).2
  rw [Int.neg_zero] at this
  exact this
/-- The reference's inverse. -/
def rinv (x m : Int) : Int := ((rv x m).tmod m + m).tmod m
theorem tmod_bd (p m : Int) (hm : 0 < m) : -m < p.tmod m ∧ p.tmod m < m := by
  refine ⟨?_, Int.tmod_lt_of_pos p hm⟩
  have h := Int.tmod_lt_of_pos (-p) hm
  rw [Int.neg_tmod] at h
  omega
set_option maxHeartbeats 4000000 in
set_option maxRecDepth 20000 in
theorem refInverse_c (x m : Int) (hx : 1 ≤ x) (hm : m ≤ 1000000000) (hxm : x ≤ m) (w : World) :
    Calls Tryd.prog 29 #[.int .i64 x, .int .i64 m] w fun e w' => e = .returned (.int .i64 (rinv x m)) ∧ Keeps w w' := by
  unfold rinv
  generalize hV : rv x m = V
  have HV := Lib.hid hV
  have h0 : Eu m m x 0 1 := ⟨by omega, by omega, by omega, by omega, by omega, by omega, by omega, by omega, Or.inl hxm⟩
  have hm0 : m ≠ 0 := by omega
  have hmp : 0 < m := by omega
  clear hV
  go_enter Tryd.func29, Tryd.ntmps29
  go_wp2_with fail
  go_loopw [5, 6, 7, 8] (fun s5 s6 s7 s8 wr => ∃ a b f g p q : Int, s5 = .int .i64 a ∧ s6 = .int .i64 b ∧ s7 = .int .i64 p ∧ s8 = .int .i64 q ∧ Eu m a b f g ∧ b ≤ a ∧ ((p = f ∧ q = -g) ∨ (p = -f ∧ q = g)) ∧ reuc (b.toNat + 1) a b p q = V ∧ Keeps w wr) (fun _ s6 _ _ _ => (intOf s6).toNat)
  case atStart => exact ⟨m, x, 0, 1, 0, 1, rfl, rfl, rfl, rfl, h0, hxm, Or.inr ⟨rfl, rfl⟩, HV.out, Below.refl _ _⟩
  case round =>
    obtain ⟨a, b, f, g, p, q, rfl, rfl, rfl, rfl, hE, hba, hpq, hv, hk⟩ := hrel
    by_cases hb : 0 < b
    · have hbn : b ≠ 0 := by omega
      obtain ⟨k1, k2, k3, k4, k5, k6, k7⟩ := hE.step hba hbn
      have hv2 : reuc ((a.tmod b).toNat + 1) b (a.tmod b) q (p - a.tdiv b * q) = V := by
        rw [← hv]
        conv => rhs; rw [reuc, if_neg hbn]
        exact reuc_any _ _ _ _ _ _ k1.1 k1.2.1 (by omega) (by have := k1.2.1; omega)
      have hpq2 : (q = g ∧ p - a.tdiv b * q = -(f + a.tdiv b * g)) ∨ (q = -g ∧ p - a.tdiv b * q = f + a.tdiv b * g) := by
        rcases hpq with ⟨rfl, rfl⟩ | ⟨rfl, rfl⟩
        · right; exact ⟨rfl, by grind⟩
        · left; exact ⟨rfl, by grind⟩
      have hkq : -m ≤ a.tdiv b * q ∧ a.tdiv b * q ≤ m := by
        rcases hpq with ⟨rfl, rfl⟩ | ⟨rfl, rfl⟩
        · rw [Int.mul_neg]; omega
        · omega
      have hE2 := hE
      unfold Eu at hE2
      obtain ⟨u1, u2, u3, u4, -, u6, u7, u8, -⟩ := hE2
      have t1 := k1.2.1
      have t9 := k1.2.2.2.1
      have hp2 : -m ≤ p - a.tdiv b * q ∧ p - a.tdiv b * q ≤ m := by omega
      have em := Int.mul_tdiv_add_tmod a b
      have em2 : a.tdiv b * b = a - a.tmod b := by rw [Int.mul_comm]; omega
      have q1 : IntKind.i64.wrap (a.tdiv b) = a.tdiv b := IntWalk.i64_in _ (by omega)
      have q2 : IntKind.i64.wrap (a.tdiv b * b) = a.tdiv b * b := IntWalk.i64_in _ (by omega)
      have q3 : IntKind.i64.wrap (a - a.tdiv b * b) = a - a.tdiv b * b := IntWalk.i64_in _ (by omega)
      have q4 : IntKind.i64.wrap (a.tdiv b * q) = a.tdiv b * q := IntWalk.i64_in _ (by omega)
      have q5 : IntKind.i64.wrap (p - a.tdiv b * q) = p - a.tdiv b * q := IntWalk.i64_in _ (by omega)
      have hdv := Int.tdiv_eq_ediv_of_nonneg (b := b) u1
      have E1 := Lib.hid (show a - a.tdiv b * b = a.tmod b by omega)
      have E2 := Lib.hid (show a - a / b * b = a.tmod b by rw [← hdv]; omega)
      have E3 := Lib.hid hdv
      have Hk1 := Lib.hid k1
      have Hv2 := Lib.hid hv2
      have Hk2 := Lib.hid k2
      have Hpq2 := Lib.hid hpq2
      clear hv hE k1 k2 k3 k4 k5 k6 k7 hv2 HV h0 hpq hpq2 hkq hp2 em em2 hdv t9
      go_wp2_with fail
      go_roundw
      case rel => exact ⟨b, a.tmod b, g, f + a.tdiv b * g, q, p - a.tdiv b * q, rfl, by first | rfl | rw [E1.out] | rw [E2.out], rfl, by first | rfl | rw [E3.out], Hk1.out, by have := Hk2.out; omega, (by rcases Hpq2.out with h | h; exact Or.inl ⟨h.1, h.2⟩; exact Or.inr ⟨h.1, h.2⟩), Hv2.out, hk⟩
      case measure =>
        have h1 := Hk2.out
        have h2 := E1.out
        have h3 := E2.out
        simp [intOf]
        omega
    · have hb0 : b = 0 := by have := hE.2.1; omega
      subst hb0
      have hpV : p = V := by rw [← hv]; rfl
      subst hpV
      have t2 := tmod_bd p m hmp
      have t3 := tmod_bd (p.tmod m + m) m hmp
      have q1 : IntKind.i64.wrap (p.tmod m) = p.tmod m := IntWalk.i64_in _ (by omega)
      have q2 : IntKind.i64.wrap (p.tmod m + m) = p.tmod m + m := IntWalk.i64_in _ (by omega)
      have q3 : IntKind.i64.wrap ((p.tmod m + m).tmod m) = (p.tmod m + m).tmod m := IntWalk.i64_in _ (by omega)
      have E1 := Lib.hid (show (p.tmod m + m).tmod m = (p.tmod m + m) % m from Int.tmod_eq_emod_of_nonneg (by omega))
      clear hv HV h0 hE hpq t2 t3
      go_wp2_with fail
      go_ret
      exact ⟨by first | rfl | rw [E1.out], hk⟩
end Go.Proofs.YtnlogppdnfhelabDoor
