/- The walks of inverse, root, Root, Form. -/
import Derived.Test.YteffkcnlipdgaaaDoorAf
namespace Go.Proofs.YteffkcnlipdgaaaDoor
open Go.RowKit
set_option linter.unusedVariables false
set_option linter.unusedSimpArgs false

/-- Euclid's steps with the factors. -/
def eucl : Nat → Int → Int → Int → Int → Int
  | 0, _, _, f, _ => f
  | n + 1, a, b, f, g => if b = 0 then f else eucl n b (a.tmod b) g (f + a.tdiv b * g)
def inv (x m : Int) : Int := eucl (x.toNat + 1) m x 0 1
theorem eucl_any : ∀ (n m : Nat) (a b f g : Int), 0 ≤ a → 0 ≤ b → b.toNat < n → b.toNat < m → eucl n a b f g = eucl m a b f g := by
  intro n
  induction n with
  | zero => intro m a b f g ha h0 h1 h2; omega
  | succ n ih =>
    intro m a b f g ha h0 h1 h2
    cases m with
    | zero => omega
    | succ m =>
      unfold eucl
      by_cases hb : b = 0
      · rw [if_pos hb, if_pos hb]
      · rw [if_neg hb, if_neg hb]
        have a2 := Int.tmod_lt_of_pos a (b := b) (by omega)
        have a3 := Int.tmod_nonneg b ha
        exact ih m _ _ _ _ h0 a3 (by omega) (by omega)
/-- What Euclid's steps keep: a g + b f is the modulus. -/
def Eu (M a b f g : Int) : Prop := 0 ≤ a ∧ 0 ≤ b ∧ 0 ≤ f ∧ 0 ≤ g ∧ a * g + b * f = M ∧ f ≤ M ∧ a ≤ M ∧ b ≤ M ∧ (b ≤ a ∨ g ≤ M)
theorem Eu.step {M a b f g : Int} (h : Eu M a b f g) (hab : b ≤ a) (hb : b ≠ 0) : Eu M b (a.tmod b) g (f + a.tdiv b * g) ∧ a.tmod b < b ∧ 0 ≤ a.tdiv b ∧ a.tdiv b ≤ M ∧ 0 ≤ a.tdiv b * g ∧ a.tdiv b * g ≤ M ∧ f + a.tdiv b * g ≤ M := by
  obtain ⟨h1, h2, h3, h4, h5, h6, h7, h8, -⟩ := h
  have a2 := Int.tmod_lt_of_pos a (b := b) (by omega)
  have a3 := Int.tmod_nonneg b h1
  have e := Int.mul_tdiv_add_tmod a b
  have hq0 : 0 ≤ a.tdiv b := Int.tdiv_nonneg h1 h2
  have hq1 : a.tdiv b ≤ a := Int.tdiv_le_self _ h1
  generalize a.tdiv b = q at *
  generalize a.tmod b = r at *
  have hqg : 0 ≤ q * g := Int.mul_nonneg hq0 h4
  have e2 : b * (f + q * g) + r * g = M := by grind
  have hrg : 0 ≤ r * g := Int.mul_nonneg a3 h4
  have hn : 0 ≤ f + q * g := by omega
  have hle : f + q * g ≤ b * (f + q * g) := by
    have := Int.mul_le_mul_of_nonneg_right (show 1 ≤ b by omega) hn
    omega
  have hag : 0 ≤ b * f := Int.mul_nonneg h2 h3
  have hg : g ≤ a * g := by
    have := Int.mul_le_mul_of_nonneg_right (show 1 ≤ a by omega) h4
    omega
  exact ⟨⟨h2, a3, h4, hn, e2, by omega, h8, by omega, Or.inl (by omega)⟩, a2, hq0, by omega, hqg, by omega, by omega⟩
set_option maxHeartbeats 4000000 in
set_option maxRecDepth 20000 in
theorem inverse_c (x m : Int) (hx : 1 ≤ x) (hm : m ≤ 1000000000) (hxm : x ≤ m) (w : World) :
    Calls Tryd.prog 46 #[.int .i64 x, .int .i64 m] w fun e w' => e = .returned (.int .i64 (inv x m)) ∧ Keeps w w' := by
  generalize hV : inv x m = V
  have HV := Lib.hid hV
  have h0 : Eu m m x 0 1 := ⟨by omega, by omega, by omega, by omega, by omega, by omega, by omega, by omega, Or.inl hxm⟩
  clear hV
  go_enter Tryd.func46, Tryd.ntmps46
  go_wp2_with fail
  go_loopw [5, 6, 7, 8] (fun s5 s6 s7 s8 wr => ∃ a b f g : Int, s5 = .int .i64 a ∧ s6 = .int .i64 b ∧ s7 = .int .i64 f ∧ s8 = .int .i64 g ∧ Eu m a b f g ∧ b ≤ a ∧ eucl (b.toNat + 1) a b f g = V ∧ Keeps w wr) (fun _ s6 _ _ _ => (intOf s6).toNat)
  case atStart => exact ⟨m, x, 0, 1, rfl, rfl, rfl, rfl, h0, hxm, HV.out, Below.refl _ _⟩
  case round =>
    obtain ⟨a, b, f, g, rfl, rfl, rfl, rfl, hE, hba, hv, hk⟩ := hrel
    by_cases hb : b = 0
    · subst hb
      have hf : f = V := by rw [← hv]; rfl
      subst hf
      clear hv HV h0 hE
      go_wp2_with fail
      go_ret
      exact ⟨rfl, hk⟩
    · obtain ⟨k1, k2, k3, k4, k5, k6, k7⟩ := hE.step hba hb
      have hv2 : eucl ((a.tmod b).toNat + 1) b (a.tmod b) g (f + a.tdiv b * g) = V := by
        rw [← hv]
        conv => rhs; rw [eucl, if_neg hb]
        exact eucl_any _ _ _ _ _ _ k1.1 k1.2.1 (by omega) (by have := k1.2.1; omega)
      have hE2 := hE
      unfold Eu at hE2
      obtain ⟨u1, u2, u3, u4, -, u6, u7, u8, -⟩ := hE2
      have t1 := k1.2.1
      have q1 : IntKind.i64.wrap (a.tdiv b) = a.tdiv b := IntWalk.i64_in _ (by omega)
      have q2 : IntKind.i64.wrap (a.tmod b) = a.tmod b := IntWalk.i64_in _ (by omega)
      have q3 : IntKind.i64.wrap (a.tdiv b * g) = a.tdiv b * g := IntWalk.i64_in _ (by omega)
      have q4 : IntKind.i64.wrap (f + a.tdiv b * g) = f + a.tdiv b * g := IntWalk.i64_in _ (by omega)
      have Ht := Lib.hid (Int.tmod_eq_emod_of_nonneg (b := b) u1)
      have Hd := Lib.hid (Int.tdiv_eq_ediv_of_nonneg (b := b) u1)
      have Hk1 := Lib.hid k1
      have Hhv2 := Lib.hid hv2
      have Hk2 := Lib.hid k2
      clear hv hE k1 k2 k3 k4 k5 k6 k7 hv2 HV h0
      have hb1 : (b == 0) = false := by simpa using hb
      go_wp2_with fail
      go_quiet (fail)
      go_wp2_with fail
      go_roundw
      case rel => exact ⟨b, a.tmod b, g, f + a.tdiv b * g, rfl, by first | rfl | rw [Ht.out], rfl, by first | rfl | rw [Hd.out], Hk1.out, by have := Hk2.out; omega, Hhv2.out, below_drewN (n := nq) hk⟩
      case measure =>
        have h1 := Hk2.out
        have h2 := Ht.out
        simp [intOf]
        omega
end Go.Proofs.YteffkcnlipdgaaaDoor
