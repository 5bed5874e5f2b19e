/- The law Meets: sums of meetings. -/
import Derived.Test.YtjakpneoodlmcaaVg
import Derived.Test.YtjakpneoodlmcaaVh
namespace Go.Proofs.Ytjakpneoodlmcaa
open Go.RowKit
set_option linter.unusedVariables false

def sumN (f : Nat → Nat) : Nat → Nat
  | 0 => 0
  | n + 1 => sumN f n + f n
theorem sumN_add (f g : Nat → Nat) (n : Nat) : sumN (fun i => f i + g i) n = sumN f n + sumN g n := by
  induction n with
  | zero => rfl
  | succ n ih => simp only [sumN, ih]; omega
theorem sumN_congr (f g : Nat → Nat) (n : Nat) (h : ∀ i, i < n → f i = g i) : sumN f n = sumN g n := by
  induction n with
  | zero => rfl
  | succ n ih => simp only [sumN]; rw [ih fun i hi => h i (by omega), h n (by omega)]
theorem sumN_zero (n : Nat) : sumN (fun _ => 0) n = 0 := by
  induction n with
  | zero => rfl
  | succ n ih => simp only [sumN, ih]
theorem sumN_le (f : Nat → Nat) (b n : Nat) (h : ∀ i, f i ≤ b) : sumN f n ≤ n * b := by
  induction n with
  | zero => simp [sumN]
  | succ n ih => have := h n; simp only [sumN, Nat.succ_mul]; omega
theorem sumN_swap (B : Nat → Nat → Nat) (n m : Nat) : sumN (fun i => sumN (fun j => B i j) m) n = sumN (fun j => sumN (fun i => B i j) n) m := by
  induction n with
  | zero => exact (sumN_zero m).symm
  | succ n ih => simp only [sumN]; rw [ih, ← sumN_add]
theorem metI_sum (l : List Int) (u v : Int) (n i : Nat) : metI l u v n i = sumN (fun f => metJ l u v f n) i := by
  induction i with
  | zero => rfl
  | succ i ih => simp only [sumN, metI, ih]
theorem metJ_sum (l : List Int) (u v : Int) (f j : Nat) : metJ l u v f j = sumN (fun g => if metB l u v f g = true then 1 else 0) j := by
  induction j with
  | zero => rfl
  | succ j ih =>
    simp only [sumN]
    cases hb : metB l u v f j with
    | true => rw [metJ_yes _ _ _ _ _ hb, ih, if_pos rfl]
    | false => rw [metJ_no _ _ _ _ _ hb, ih, if_neg (by simp)]; rfl
theorem metB_opp (l : List Int) (u v : Int) (f g : Nat) : metB l (-u) (-v) f g = metB l u v g f := by
  unfold metB stp1 stp2
  exact decide_eq_decide.2 ⟨fun h => by omega, fun h => by omega⟩
theorem meet_opp (l : List Int) (u v : Int) : meetN l (-u) (-v) = meetN l u v := by
  unfold meetN
  simp only [metI_sum, metJ_sum, metB_opp]
  exact sumN_swap _ _ _
theorem meet_le (l : List Int) (u v : Int) : meetN l u v ≤ l.length := by rw [meetN, metI_rm]; exact rmI_le _ _ _ _
theorem sum_one (A : Prop) [Decidable A] (d : Int) (m : Nat) : sumN (fun j => if A ∧ (j : Int) = d then 1 else 0) m = if A ∧ 0 ≤ d ∧ d < m then 1 else 0 := by
  induction m with
  | zero => rw [if_neg (by omega)]; rfl
  | succ m ih =>
    simp only [sumN]
    rw [ih]
    by_cases hA : A
    · by_cases h1 : (m : Int) = d
      · rw [if_neg (by omega), if_pos ⟨hA, h1⟩, if_pos ⟨hA, by omega⟩]
      · rw [if_neg (c := A ∧ (m : Int) = d) (by omega)]
        by_cases h2 : 0 ≤ d ∧ d < m
        · rw [if_pos ⟨hA, h2⟩, if_pos ⟨hA, by omega⟩]
        · rw [if_neg (by omega), if_neg (by omega)]
    · rw [if_neg (fun h => hA h.1), if_neg (fun h => hA h.1), if_neg (fun h => hA h.1)]
theorem sum_band (p u : Int) (k : Nat) (hk : (k : Int) ≤ p) : ((sumN (fun f => if 0 ≤ (f : Int) + u ∧ (f : Int) + u < p then 1 else 0) k : Nat) : Int) = max 0 (min (k : Int) (p - u) - max 0 (-u)) := by
  induction k with
  | zero => simp only [sumN]; omega
  | succ k ih =>
    have ih := ih (by omega)
    simp only [sumN]
    split <;> omega
/-- The meetings with one number of columns, over all numbers of rows. -/
def sumW (l : List Int) (u : Int) (k : Nat) : Nat := sumN (fun j => meetN l u ((j : Int) - l.length)) k
theorem sumW_succ (l : List Int) (u : Int) (k : Nat) : sumW l u (k + 1) = sumW l u k + meetN l u ((k : Int) - l.length) := rfl
theorem sumW_le (l : List Int) (u : Int) (k : Nat) : sumW l u k ≤ k * l.length := sumN_le _ _ _ fun i => meet_le _ _ _
theorem sumW_all (l : List Int) (u : Int) (hb : ∀ i, i < l.length → 0 ≤ nth l i ∧ nth l i < l.length) : ((sumW l u (2 * l.length + 1) : Nat) : Int) = max 0 ((l.length : Int) - max u (-u)) := by
  have h1 : sumW l u (2 * l.length + 1) = sumN (fun f => if 0 ≤ (f : Int) + u ∧ (f : Int) + u < l.length then 1 else 0) l.length := by
    unfold sumW meetN
    simp only [metI_sum]
    rw [sumN_swap]
    refine sumN_congr _ _ _ fun f hf => ?_
    simp only [metJ_one]
    have hf1 := hb f hf
    by_cases hA : 0 ≤ (f : Int) + u ∧ (f : Int) + u < l.length
    · have hg := hb ((f : Int) + u).toNat (by omega)
      rw [if_pos hA]
      have := sum_one True (nth l ((f : Int) + u).toNat - nth l f + l.length) (2 * l.length + 1)
      rw [if_pos ⟨trivial, by omega, by omega⟩] at this
      refine Eq.trans (sumN_congr _ _ _ fun j hj => ?_) this
      by_cases h2 : (j : Int) = nth l ((f : Int) + u).toNat - nth l f + l.length
      · rw [if_pos ⟨hA.1, hA.2, by omega⟩, if_pos ⟨trivial, h2⟩]
      · rw [if_neg (fun h => h2 (by have := h.2.2; omega)), if_neg (fun h => h2 h.2)]
    · rw [if_neg hA]
      refine Eq.trans (sumN_congr _ (fun _ => 0) _ fun j hj => ?_) (sumN_zero _)
      rw [if_neg (fun h => hA ⟨h.1, h.2.1⟩)]
  rw [h1, sum_band _ _ _ (Int.le_refl _)]
  omega
set_option maxHeartbeats 4000000 in
set_option maxRecDepth 100000 in
theorem law_meets (n : Int) (v0 : Value) (l : List Int) (u v : Int) (w : World) (hn : (Lit.int .i64 n).wf = true) (hv : RdI w v0 l) (hf : fits l) (hcap : Cap v0) (hu : (Lit.int .i64 u).wf = true) (hw : (Lit.int .i64 v).wf = true) :
    Calls Try.prog 4 #[.int .i64 n, v0, .int .i64 u, .int .i64 v] w fun e w' => e = .returned (.bool true) ∧ Keeps w w' := by
  have hta := tame_c n v0 l 16 (by omega) (by omega) hn w hv hf
  clear hn hv hf hcap
  go_enter Try.func4, Try.ntmps4
  go_wp2_with (go_at_call 13; refine hta.mono ?_; rintro e w1 ⟨bL, cL, L, rfl, hLc, hl1, ho, hp16, hb1⟩)
  clear hta
  obtain ⟨ho1, ho2, ho3, -⟩ := ordB_parts L ho
  have hin : ∀ i, i < L.length → 0 ≤ nth L i ∧ nth L i < L.length := fun i hi => (hasB_iff _ _).1 (List.all_eq_true.1 ho3 _ (nth_mem L i hi))
  have hall := fun x => sumW_all L x hin
  have hopp := fun x y => meet_opp L x y
  have hle := fun x y => meet_le L x y
  have hsl := fun x k => sumW_le L x k
  have hme := fun x y X hx => meeting_yes (some ⟨bL, 0, none⟩) cL L ho x y X hx
  have hm1 := fun X => mod_c u (2 * (L.length : Int) + 1) hu (by omega) (by omega) X
  have hm2 := fun X => mod_c v (2 * (L.length : Int) + 1) hw (by omega) (by omega) X
  obtain ⟨a0, a1⟩ := modN_in u (2 * (L.length : Int) + 1) (by omega)
  obtain ⟨b0, b1⟩ := modN_in v (2 * (L.length : Int) + 1) (by omega)
  generalize modN u (2 * (L.length : Int) + 1) = mu at *
  generalize modN v (2 * (L.length : Int) + 1) = mv at *
  clear ho3 ho hin hu hw
  have hnb : (L.length : Int) ≤ 16 := by omega
  have hnb1 : 1 ≤ (L.length : Int) := by omega
  refine (hm1 _).mono ?_
  rintro e w2 ⟨rfl, rfl⟩
  clear hm1
  go_wp2_with (first
    | (go_at_call 14; refine (hm2 _).mono ?_; rintro e w2 ⟨rfl, rfl⟩))
  clear hm2
  have a2 : -(L.length : Int) ≤ mu - L.length := by omega
  have a3 : mu - (L.length : Int) ≤ L.length := by omega
  have b2 : -(L.length : Int) ≤ mv - L.length := by omega
  have b3 : mv - (L.length : Int) ≤ L.length := by omega
  generalize mu - (L.length : Int) = x at *
  generalize mv - (L.length : Int) = y at *
  clear a0 a1 b0 b1
  have hme2 := fun X hx => hme (-x) (-y) X hx
  rw [hopp x y] at hme2
  refine (hme x y _ hl1).mono ?_
  rintro e w3 ⟨rfl, hb3⟩
  have hl3 := RdI.below hl1 hb3
  have hk3 := Keeps.next hb1 hb3
  have hn2 := hle x y
  generalize meetN L x y = N at *
  go_wp2_with (first
    | (go_at_call 9; refine (hme2 _ hl3).mono ?_; rintro e w4 ⟨rfl, hb4⟩; have hl4 := RdI.below hl3 hb4; have hk4 := Keeps.next hk3 hb4))
  clear hme2 hopp hb1 hb3 hb4 hk3 hl1 hl3
  go_loopw [14, 15] (fun s i wr => ∃ k : Nat, k ≤ 2 * L.length + 1 ∧ i = .int .i64 ((k : Int) - L.length) ∧ s = .int .i64 (sumW L x k) ∧ Keeps w4 wr) (fun _ i _ => ((L.length : Int) + 1 - intOf i).toNat)
  case atStart => exact ⟨0, by omega, congrArg _ (by omega), rfl, Below.refl _ _⟩
  case round =>
    obtain ⟨k, hk, rfl, rfl, hb5⟩ := hrel
    have hl5 := RdI.below hl4 hb5
    have hsb : sumW L x k ≤ 33 * 16 := Nat.le_trans (hsl x k) (Nat.mul_le_mul (by omega) (by omega))
    by_cases hlt : k < 2 * L.length + 1
    · have hme5 := fun X hx => hme x ((k : Int) - L.length) X hx
      have Hy := Lib.hid (sumW_succ L x k)
      have hN5 := hle x ((k : Int) - L.length)
      generalize meetN L x ((k : Int) - L.length) = N5 at *
      generalize sumW L x k = S at *
      clear hall hle hsl hme
      have hki : (k : Int) - L.length ≤ L.length := by omega
      go_wp2_with (go_at_call 9; refine (hme5 _ hl5).mono ?_; rintro e w6 ⟨rfl, hb6⟩)
      go_roundw
      case rel => exact ⟨k + 1, by omega, by go_num, by rw [Hy.out]; go_num, Keeps.next hb5 hb6⟩
      case measure => simp [intOf]; omega
    · have hkk : 2 * L.length + 1 = k := by omega
      have hs := hall x
      rw [hkk] at hs
      have hki : (L.length : Int) < (k : Int) - L.length := by omega
      generalize sumW L x k = S at *
      clear hall hle hsl hme
      have hk5 := Keeps.next hk4 hb5
      go_wp2_with (go_at_call 11; refine (awake_c _).mono ?_; rintro e w7 ⟨rfl, hb7⟩)
      all_goals (go_ret; exact ⟨rfl, Keeps.next hk5 hb7⟩)
end Go.Proofs.Ytjakpneoodlmcaa
