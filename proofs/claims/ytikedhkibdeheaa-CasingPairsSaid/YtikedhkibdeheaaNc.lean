/- Tables of two sheets, and the factors: what the law on pairs compares. Nothing is claimed here. -/
import Derived.Test.YtikedhkibdeheaaNb
import Derived.Test.YtikedhkibdeheaaFf
namespace Go.Proofs.Ytikedhkibdeheaa
open Go.RowKit
set_option linter.unusedVariables false

def pairW (p q : Bool) : List Int := layS (layS (w0 2 2) 0 (if p then [1, 0] else [0, 1])) 1 (if q then [1, 0] else [0, 1])
theorem pair_all : wins 2 2 [] = [pairW false true, pairW true false, pairW true true] := by decide +kernel
def bi (p : Bool) : Int := if p then 1 else 0
theorem pair_step (p q : Bool) (h : (p || q) = true) : ∀ s : Nat, s < 2 → ∀ c ∈ [97, 65, 98, 66], stp (pairW p q) s c = ((s : Int) + bi p * ea c + bi q * eb c) % 2 := by
  revert p q; decide +kernel
theorem pair_snd (p q : Bool) (h : (p || q) = true) : ∀ (r : List UInt8), r.all (okL 2) = true → ∀ s : Int, 0 ≤ s → s < 2 → snd (pairW p q) s r = (s + bi p * exA r + bi q * exB r) % 2
  | [], _, s, h0, h1 => by
    show s = (s + bi p * 0 + bi q * 0) % 2
    rw [Int.mul_zero, Int.mul_zero, Int.add_zero, Int.add_zero, Int.emod_eq_of_lt h0 h1]
  | c :: r, hr, s, h0, h1 => by
    rw [List.all_cons, Bool.and_eq_true] at hr
    have hc : c ∈ [97, 65, 98, 66] := by
      rcases okL_four c hr.1 with rfl | rfl | rfl | rfl <;> decide
    have hst := pair_step p q h s.toNat (by omega) c hc
    rw [show ((s.toNat : Nat) : Int) = s by omega] at hst
    have h2 : 0 ≤ stp (pairW p q) s c ∧ stp (pairW p q) s c < 2 := by
      rw [hst]; exact ⟨Int.emod_nonneg _ (by omega), Int.emod_lt_of_pos _ (by omega)⟩
    have hex : exA (c :: r) = ea c + exA r := by simp [exA]
    have hey : exB (c :: r) = eb c + exB r := by simp [exB]
    show snd (pairW p q) (stp (pairW p q) s c) r = _
    rw [pair_snd p q h r hr.2 _ h2.1 h2.2, hst, hex, hey, Int.mul_add, Int.mul_add]
    generalize bi p * ea c = x1
    generalize bi p * exA r = x2
    generalize bi q * eb c = x3
    generalize bi q * exB r = x4
    omega
theorem pair_keeps (p q : Bool) (h : (p || q) = true) (r : ByteArray) (hr : r.data.toList.all (okL 2) = true) : krB (pairW p q) 2 r = decide ((2 : Int) ∣ bi p * exA r.data.toList + bi q * exB r.data.toList) := by
  have hs := fun (s : Nat) (hs : s < 2) => pair_snd p q h r.data.toList hr s (by omega) (by omega)
  generalize hx : bi p * exA r.data.toList = x at *
  generalize hy : bi q * exB r.data.toList = y at *
  rw [Bool.eq_iff_iff, decide_eq_true_iff]
  unfold krB
  rw [List.all_eq_true]
  constructor
  · intro h
    have h0 := h 0 (by simp)
    rw [decide_eq_true_iff, hs 0 (by omega)] at h0
    omega
  · intro h s hsr
    have hs2 : s < 2 := by simpa using hsr
    rw [decide_eq_true_iff, hs s hs2]
    omega
theorem pair_nth1 (p q : Bool) : nth (pairW p q) 1 = 2 := by
  unfold pairW; rw [layS_nth _ _ _ _ (by omega), layS_nth _ _ _ _ (by omega)]; rfl
/-- All rules come to an even number. -/
def evB (p q : Bool) (rs : List ByteArray) : Bool := rs.all fun r => decide ((2 : Int) ∣ bi p * exA r.data.toList + bi q * exB r.data.toList)
theorem pair_keepsB (p q : Bool) (h : (p || q) = true) (rs : List ByteArray) (hr : ∀ r ∈ rs, r.data.toList.all (okL 2) = true) : keepsB (pairW p q) rs = evB p q rs := by
  unfold keepsB evB
  rw [pair_nth1, show ((2 : Int)).toNat = 2 from rfl]
  rw [Bool.eq_iff_iff, List.all_eq_true, List.all_eq_true]
  exact ⟨fun hh r hr' => by rw [← pair_keeps p q h r (hr r hr')]; exact hh r hr', fun hh r hr' => by rw [pair_keeps p q h r (hr r hr')]; exact hh r hr'⟩
def b01 (b : Bool) : Nat := if b then 1 else 0
theorem pair_count (rs : List ByteArray) (hr : ∀ r ∈ rs, r.data.toList.all (okL 2) = true) : (wins 2 2 rs).length = b01 (evB false true rs) + b01 (evB true false rs) + b01 (evB true true rs) := by
  rw [wins_filter, pair_all]
  simp only [List.filter_cons, List.filter_nil, pair_keepsB false true rfl rs hr, pair_keepsB true false rfl rs hr, pair_keepsB true true rfl rs hr]
  cases evB false true rs <;> cases evB true false rs <;> cases evB true true rs <;> rfl

/-! ### Divisors of the two greatest common divisors -/
theorem dvd_gE (d a : Int) (r : ByteArray) : d ∣ gE a r ↔ d ∣ a ∧ d ∣ exA r.data.toList ∧ d ∣ exB r.data.toList := by
  unfold gE; rw [Int.dvd_coe_gcd_iff, Int.dvd_coe_gcd_iff, and_assoc]
theorem dvd_dE (d : Int) : ∀ (rs : List ByteArray) (a : Int), d ∣ rs.foldl gE a ↔ d ∣ a ∧ ∀ r ∈ rs, d ∣ exA r.data.toList ∧ d ∣ exB r.data.toList
  | [], a => by simp
  | r :: rs, a => by
    rw [List.foldl_cons, dvd_dE d rs (gE a r), dvd_gE]
    simp only [List.mem_cons, forall_eq_or_imp]
    constructor
    · rintro ⟨⟨h1, h2⟩, h3⟩; exact ⟨h1, h2, h3⟩
    · rintro ⟨h1, h2, h3⟩; exact ⟨⟨h1, h2⟩, h3⟩
theorem dvd_dDi (d : Int) (r : ByteArray) : ∀ (qs : List ByteArray) (a : Int), d ∣ dDi a r qs ↔ d ∣ a ∧ ∀ q ∈ qs, d ∣ det r q
  | [], a => by simp [dDi]
  | q :: qs, a => by
    have : dDi a r (q :: qs) = dDi (gD a r q) r qs := rfl
    rw [this, dvd_dDi d r qs (gD a r q), gD, Int.dvd_coe_gcd_iff]
    simp only [List.mem_cons, forall_eq_or_imp]
    constructor
    · rintro ⟨⟨h1, h2⟩, h3⟩; exact ⟨h1, h2, h3⟩
    · rintro ⟨h1, h2, h3⟩; exact ⟨⟨h1, h2⟩, h3⟩
theorem dvd_dD (d : Int) (rs : List ByteArray) : ∀ k, k ≤ rs.length → (d ∣ dD rs k ↔ ∀ i j, i < k → j < i → ∀ r q, rs[i]? = some r → rs[j]? = some q → d ∣ det r q)
  | 0, _ => by simp [dD]
  | k + 1, hk => by
    have hr : rs[k]? = some rs[k] := List.getElem?_eq_getElem (by omega)
    rw [dD_snoc rs k _ hr, dvd_dDi, dvd_dD d rs k (by omega)]
    constructor
    · rintro ⟨h1, h2⟩ i j hi hj r q hri hqj
      by_cases e : i = k
      · subst e
        rw [hr] at hri; cases hri
        refine h2 q ?_
        rw [List.mem_iff_getElem?]
        exact ⟨j, by rw [List.getElem?_take, if_pos hj]; exact hqj⟩
      · exact h1 i j (by omega) hj r q hri hqj
    · intro h
      refine ⟨fun i j hi hj r q h1 h2 => h i j (by omega) hj r q h1 h2, fun q hq => ?_⟩
      obtain ⟨j, hj⟩ := List.mem_iff_getElem?.1 hq
      have hjk : j < k := by have := (List.getElem?_eq_some_iff.1 hj).1; rw [List.length_take] at this; omega
      rw [List.getElem?_take, if_pos hjk] at hj
      exact h k j (by omega) hjk _ q hr hj
theorem det_sq (D : Int) (rs : List ByteArray) (h : D ∣ dE rs) : D * D ∣ dD rs rs.length := by
  have hD := ((dvd_dE D rs 0).1 h).2
  refine (dvd_dD (D * D) rs rs.length (Nat.le_refl _)).2 (fun i j _ _ r q hr hq => ?_)
  obtain ⟨⟨a, ha⟩, ⟨b, hb⟩⟩ := hD r (List.mem_of_getElem? hr)
  obtain ⟨⟨c, hc⟩, ⟨e, he⟩⟩ := hD q (List.mem_of_getElem? hq)
  refine ⟨a * e - b * c, ?_⟩
  unfold det
  rw [ha, hb, hc, he, Int.mul_sub]
  congr 1
  · rw [Int.mul_assoc, Int.mul_assoc]; congr 1; rw [← Int.mul_assoc, Int.mul_comm a D, Int.mul_assoc]
  · rw [Int.mul_assoc, Int.mul_assoc]; congr 1; rw [← Int.mul_assoc, Int.mul_comm b D, Int.mul_assoc]

theorem det_par (a b c e : Int) : (a * e - b * c) % 2 = ((a % 2) * (e % 2) - (b % 2) * (c % 2)) % 2 := by
  rw [Int.sub_emod, Int.mul_emod, Int.mul_emod b c, ← Int.sub_emod]
theorem par2 (x : Int) : x % 2 = 0 ∨ x % 2 = 1 := by omega
theorem evB_iff (p q : Bool) (rs : List ByteArray) : evB p q rs = true ↔ ∀ r ∈ rs, (2 : Int) ∣ bi p * exA r.data.toList + bi q * exB r.data.toList := by
  unfold evB; rw [List.all_eq_true]; simp only [decide_eq_true_iff]
theorem ev_ft (rs : List ByteArray) : evB false true rs = true ↔ ∀ r ∈ rs, exB r.data.toList % 2 = 0 := by
  rw [evB_iff]
  constructor
  · intro h r hr; have := h r hr; simp only [bi] at this; simp at this; omega
  · intro h r hr; have := h r hr; simp only [bi]; simp; omega
theorem ev_tf (rs : List ByteArray) : evB true false rs = true ↔ ∀ r ∈ rs, exA r.data.toList % 2 = 0 := by
  rw [evB_iff]
  constructor
  · intro h r hr; have := h r hr; simp only [bi] at this; simp at this; omega
  · intro h r hr; have := h r hr; simp only [bi]; simp; omega
theorem ev_tt (rs : List ByteArray) : evB true true rs = true ↔ ∀ r ∈ rs, (exA r.data.toList + exB r.data.toList) % 2 = 0 := by
  rw [evB_iff]
  constructor
  · intro h r hr; have := h r hr; simp only [bi] at this; simp at this; omega
  · intro h r hr; have := h r hr; simp only [bi]; simp; omega
theorem b01_no {b : Bool} (h : ¬ b = true) : b01 b = 0 := by cases b with | false => rfl | true => exact absurd rfl h
theorem b01_yes {b : Bool} (h : b = true) : b01 b = 1 := by rw [h]; rfl
theorem dets_even (rs : List ByteArray) (h : (2 : Int) ∣ dD rs rs.length) (r q : ByteArray) (hr : r ∈ rs) (hq : q ∈ rs) : det r q % 2 = 0 := by
  have hd := (dvd_dD 2 rs rs.length (Nat.le_refl _)).1 h
  obtain ⟨i, hi⟩ := List.mem_iff_getElem?.1 hr
  obtain ⟨j, hj⟩ := List.mem_iff_getElem?.1 hq
  have hil := (List.getElem?_eq_some_iff.1 hi).1
  have hjl := (List.getElem?_eq_some_iff.1 hj).1
  have hneg : det r q = -det q r := by
    unfold det
    rw [Int.mul_comm (exA r.data.toList), Int.mul_comm (exB r.data.toList)]
    omega
  rcases Nat.lt_trichotomy i j with h1 | h1 | h1
  · have := hd j i hjl h1 q r hj hi
    omega
  · subst h1
    rw [hi] at hj; cases hj
    have : det r r = 0 := by unfold det; rw [Int.mul_comm]; omega
    omega
  · have := hd i j hil h1 r q hi hj
    omega
theorem pair_number (rs : List ByteArray) : b01 (evB false true rs) + b01 (evB true false rs) + b01 (evB true true rs) = if (2 : Int) ∣ dE rs then 3 else if (2 : Int) ∣ dD rs rs.length then 1 else 0 := by
  by_cases hD : (2 : Int) ∣ dE rs
  · have hall := ((dvd_dE 2 rs 0).1 hD).2
    rw [if_pos hD, b01_yes ((ev_ft rs).2 fun r hr => by have := (hall r hr).2; omega), b01_yes ((ev_tf rs).2 fun r hr => by have := (hall r hr).1; omega), b01_yes ((ev_tt rs).2 fun r hr => by have := hall r hr; omega)]
  · rw [if_neg hD]
    have hex : ∃ r0, r0 ∈ rs ∧ ¬ ((2 : Int) ∣ exA r0.data.toList ∧ (2 : Int) ∣ exB r0.data.toList) := by
      by_cases h : ∃ r0, r0 ∈ rs ∧ ¬ ((2 : Int) ∣ exA r0.data.toList ∧ (2 : Int) ∣ exB r0.data.toList)
      · exact h
      · exfalso
        refine hD ((dvd_dE 2 rs 0).2 ⟨Int.dvd_zero _, fun r hr => ?_⟩)
        by_cases h2 : (2 : Int) ∣ exA r.data.toList ∧ (2 : Int) ∣ exB r.data.toList
        · exact h2
        · exact absurd ⟨r, hr, h2⟩ h
    obtain ⟨r0, hr0, hne⟩ := hex
    by_cases hE : (2 : Int) ∣ dD rs rs.length
    · rw [if_pos hE]
      have hdet : ∀ r ∈ rs, ((exA r.data.toList % 2) * (exB r0.data.toList % 2) - (exB r.data.toList % 2) * (exA r0.data.toList % 2)) % 2 = 0 := fun r hr => by
        rw [← det_par]; exact dets_even rs hE r r0 hr hr0
      rcases par2 (exA r0.data.toList) with ha | ha
      · rcases par2 (exB r0.data.toList) with hb | hb
        · exact absurd ⟨by omega, by omega⟩ hne
        · rw [b01_no (fun h => by have := (ev_ft rs).1 h r0 hr0; omega), b01_yes ((ev_tf rs).2 fun r hr => by have := hdet r hr; rw [ha, hb] at this; omega), b01_no (fun h => by have := (ev_tt rs).1 h r0 hr0; omega)]
      · rcases par2 (exB r0.data.toList) with hb | hb
        · rw [b01_yes ((ev_ft rs).2 fun r hr => by have := hdet r hr; rw [ha, hb] at this; omega), b01_no (fun h => by have := (ev_tf rs).1 h r0 hr0; omega), b01_no (fun h => by have := (ev_tt rs).1 h r0 hr0; omega)]
        · rw [b01_no (fun h => by have := (ev_ft rs).1 h r0 hr0; omega), b01_no (fun h => by have := (ev_tf rs).1 h r0 hr0; omega), b01_yes ((ev_tt rs).2 fun r hr => by have := hdet r hr; rw [ha, hb] at this; omega)]
    · rw [if_neg hE]
      have hno : ∀ (P : Prop), (∀ r ∈ rs, ∀ q ∈ rs, P → det r q % 2 = 0) → ¬ P := by
        intro P h hP
        refine hE ((dvd_dD 2 rs rs.length (Nat.le_refl _)).2 (fun i j _ _ r q hr hq => ?_))
        have := h r (List.mem_of_getElem? hr) q (List.mem_of_getElem? hq) hP
        omega
      have h1 : ¬ evB false true rs = true := hno _ (fun r hr q hq h => by
        have e1 := (ev_ft rs).1 h r hr
        have e2 := (ev_ft rs).1 h q hq
        unfold det; rw [det_par, e1, e2]; simp)
      have h2 : ¬ evB true false rs = true := hno _ (fun r hr q hq h => by
        have e1 := (ev_tf rs).1 h r hr
        have e2 := (ev_tf rs).1 h q hq
        unfold det; rw [det_par, e1, e2]; simp)
      have h3 : ¬ evB true true rs = true := hno _ (fun r hr q hq h => by
        have e1 := (ev_tt rs).1 h r hr
        have e2 := (ev_tt rs).1 h q hq
        have e3 : exB r.data.toList % 2 = exA r.data.toList % 2 := by omega
        have e4 : exB q.data.toList % 2 = exA q.data.toList % 2 := by omega
        unfold det; rw [det_par, e3, e4]; simp)
      rw [b01_no h1, b01_no h2, b01_no h3]
end Go.Proofs.Ytikedhkibdeheaa
