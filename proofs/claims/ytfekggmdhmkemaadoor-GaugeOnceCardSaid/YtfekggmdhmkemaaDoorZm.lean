/- The walks of the reference's point and IsPlain. -/
import Derived.Test.YtfekggmdhmkemaaDoorGb
import Derived.WalkKit
import Derived.WalkSpells
import Derived.WalkLawsBesides
import Derived.Lib.Hide
import Derived.IntWalk
import Derived.Outline
namespace Go.Proofs.YtfekggmdhmkemaaDoor
open Go.RowKit
set_option linter.unusedVariables false
set_option linter.unusedSimpArgs false

/-- The search for the point: the rest of a text, the place, the point so far. -/
def pSc (n : Int) : List UInt8 → Int → Int → Option Int
  | [], _, a => some a
  | c :: l, i, a => if c = 46 ∧ a = n then pSc n l (i + 1) i else if c < 48 ∨ 51 < c then none else pSc n l (i + 1) a
def ptI (l : List UInt8) : Int := match pSc l.length l 0 l.length with
  | none => -1
  | some a => if a < 1 ∨ 40 < a ∨ a = l.length - 1 ∨ 40 < (l.length : Int) - a - 1 then -1 else a
/-- The look at the digits: the rest of a text, the place, the digit before. -/
def qSc (p : Int) : List UInt8 → Int → UInt8 → Bool
  | [], _, _ => true
  | c :: l, i, d => if i = p then qSc p l (i + 1) d else if 49 < c ∨ (c = 49 ∧ d = 49) then false else qSc p l (i + 1) c
def plB (l : List UInt8) : Bool := qSc (ptI l) l 0 48 && (decide (0 ≤ ptI l) && ((!decide (l[0]?.getD 0 = 48) || decide (ptI l = 1)) && (decide (ptI l = l.length) || !decide (l[l.length - 1]?.getD 0 = 48))))
theorem pSc_cons (n : Int) (c : UInt8) (l : List UInt8) (i a : Int) : pSc n (c :: l) i a = if c = 46 ∧ a = n then pSc n l (i + 1) i else if c < 48 ∨ 51 < c then none else pSc n l (i + 1) a := rfl
theorem pSc_in (n : Int) : ∀ (l : List UInt8) (i a r : Int), pSc n l i a = some r → r = a ∨ (i ≤ r ∧ r < i + l.length)
  | [], i, a, r, h => by left; exact (Option.some.inj h).symm
  | c :: l, i, a, r, h => by
    unfold pSc at h
    have hl : ((c :: l).length : Int) = l.length + 1 := by simp
    split at h
    · rcases pSc_in n l (i + 1) i r h with h | h <;> right <;> omega
    · split at h
      · cases h
      · rcases pSc_in n l (i + 1) a r h with h | h
        · exact .inl h
        · right; omega
theorem drop_step (s : ByteArray) (i : Nat) (h : i < s.size) : s.data.toList.drop i = s[i] :: s.data.toList.drop (i + 1) := by
  rw [List.drop_eq_getElem_cons (by simpa using h)]; rfl
theorem u8_lt (c d : UInt8) : decide ((c.toNat : Int) < (d.toNat : Int)) = decide (c < d) := by
  rw [Bool.eq_iff_iff]; simp [UInt8.lt_iff_toNat_lt]
theorem u8_eq (c d : UInt8) : ((c.toNat : Int) == (d.toNat : Int)) = decide (c = d) := by
  rw [Bool.eq_iff_iff]
  simp only [beq_iff_eq, decide_eq_true_eq]
  constructor
  · intro h; exact UInt8.toNat_inj.1 (by omega)
  · rintro rfl; rfl
set_option maxHeartbeats 4000000 in
set_option maxRecDepth 100000 in
theorem point_any (s : ByteArray) (hs : s.size ≤ maxLen) (w : World) :
    Calls Tryd.prog 25 #[.string s] w fun e w' => e = .returned (.int .i64 (ptI s.data.toList)) ∧ w = w' := by
  unfold maxLen at hs
  have hlen : s.data.toList.length = s.size := Array.length_toList
  go_enter Tryd.func25, Tryd.ntmps25
  go_wp2_with fail
  go_loop [3, 4] (fun a i => ∃ k : Nat, ∃ p : Int, k ≤ s.size ∧ 0 ≤ p ∧ p ≤ s.size ∧ i = .int .i64 k ∧ a = .int .i64 p ∧ pSc s.size s.data.toList 0 s.size = pSc s.size (s.data.toList.drop k) k p) (fun _ i => s.size - (intOf i).toNat)
  case atStart => exact ⟨0, s.size, Nat.zero_le _, by omega, by omega, rfl, rfl, by simp⟩
  case round =>
    obtain ⟨k, p, hk, hp0, hp1, rfl, rfl, hpos⟩ := hrel
    by_cases hlt : k < s.size
    · have hd := drop_step s k hlt
      rw [hd, pSc_cons] at hpos
      generalize hc : s[k] = c at *
      have Hlen := Lib.hid hlen
      have q1 : IntKind.i64.wrap ((k : Int) + 1) = (k : Int) + 1 := IntWalk.i64_in _ (by omega)
      have hpt : pSc s.size s.data.toList 0 s.size = none → ptI s.data.toList = -1 := fun h => by
        unfold ptI
        rw [show (s.data.toList.length : Int) = s.size by rw [Hlen.out], h]
      have Hpt := Lib.hid hpt
      clear hd hpt hlen
      by_cases h46 : c = 46
      · have e1 : ((c.toNat : Int) == 46) = true := by rw [h46]; rfl
        by_cases hp : p = s.size
        · have e2 : (p == (s.size : Int)) = true := by simpa using hp
          rw [if_pos ⟨h46, hp⟩] at hpos
          have Hpos := Lib.hid hpos
          clear hpos h46 hp
          go_wp2_with fail
          go_round
          case rel => exact ⟨k + 1, k, by omega, by omega, by omega, by go_num, rfl, Hpos.out⟩
          case measure => simp [intOf]; omega
        · have e2 : (p == (s.size : Int)) = false := by simpa using hp
          have e3 : decide ((c.toNat : Int) < 48) = true := by rw [h46]; rfl
          rw [if_neg (fun h => hp h.2), if_pos (.inl (by rw [h46]; decide))] at hpos
          have Hpos := Lib.hid hpos
          clear hpos h46 hp
          go_wp2_with fail
          go_ret
          exact ⟨ret_int (Hpt.out Hpos.out).symm, rfl⟩
      · have e1 : ((c.toNat : Int) == 46) = false := by
          have := u8_eq c 46
          rw [show ((46 : UInt8).toNat : Int) = 46 from rfl] at this
          rw [this]; simpa using h46
        rw [if_neg (fun h => h46 h.1)] at hpos
        by_cases hlo : c < 48
        · have e3 : decide ((c.toNat : Int) < 48) = true := by
            have := u8_lt c 48
            rw [show ((48 : UInt8).toNat : Int) = 48 from rfl] at this
            rw [this]; simpa using hlo
          rw [if_pos (.inl hlo)] at hpos
          have Hpos := Lib.hid hpos
          clear hpos h46 hlo
          go_wp2_with fail
          go_ret
          exact ⟨ret_int (Hpt.out Hpos.out).symm, rfl⟩
        · have e3 : decide ((c.toNat : Int) < 48) = false := by
            have := u8_lt c 48
            rw [show ((48 : UInt8).toNat : Int) = 48 from rfl] at this
            rw [this]; simpa using hlo
          by_cases hhi : 51 < c
          · have e4 : decide (51 < (c.toNat : Int)) = true := by
              have := u8_lt 51 c
              rw [show ((51 : UInt8).toNat : Int) = 51 from rfl] at this
              rw [this]; simpa using hhi
            rw [if_pos (.inr hhi)] at hpos
            have Hpos := Lib.hid hpos
            clear hpos h46 hlo hhi
            go_wp2_with fail
            go_ret
            exact ⟨ret_int (Hpt.out Hpos.out).symm, rfl⟩
          · have e4 : decide (51 < (c.toNat : Int)) = false := by
              have := u8_lt 51 c
              rw [show ((51 : UInt8).toNat : Int) = 51 from rfl] at this
              rw [this]; simpa using hhi
            rw [if_neg (fun h => h.elim hlo hhi)] at hpos
            have Hpos := Lib.hid hpos
            clear hpos h46 hlo hhi
            go_wp2_with fail
            go_round
            case rel => exact ⟨k + 1, p, by omega, hp0, hp1, by go_num, rfl, Hpos.out⟩
            case measure => simp [intOf]; omega
    · obtain rfl : k = s.size := by omega
      have hr : ptI s.data.toList = if p < 1 ∨ 40 < p ∨ p = (s.size : Int) - 1 ∨ 40 < (s.size : Int) - p - 1 then -1 else p := by
        unfold ptI
        rw [show (s.data.toList.length : Int) = s.size by rw [hlen], hpos, List.drop_of_length_le (by rw [hlen]; exact Nat.le_refl _)]
        rfl
      have HR := Lib.hid hr
      have q1 : IntKind.i64.wrap ((s.size : Int) - 1) = (s.size : Int) - 1 := IntWalk.i64_in _ (by omega)
      have q2 : IntKind.i64.wrap ((s.size : Int) - p) = (s.size : Int) - p := IntWalk.i64_in _ (by omega)
      have q3 : IntKind.i64.wrap ((s.size : Int) - p - 1) = (s.size : Int) - p - 1 := IntWalk.i64_in _ (by omega)
      clear hr hpos hlen hlt
      by_cases h1 : p < 1
      · have e1 : decide (p < 1) = true := by simpa using h1
        have hv : ptI s.data.toList = -1 := by rw [HR.out, if_pos (.inl h1)]
        have HV := Lib.hid hv
        clear hv h1 q1 q2 q3
        go_wp2_with fail
        go_ret
        exact ⟨ret_int HV.out.symm, rfl⟩
      · have e1 : decide (p < 1) = false := by simpa using h1
        by_cases h2 : 40 < p
        · have e2 : decide (40 < p) = true := by simpa using h2
          have hv : ptI s.data.toList = -1 := by rw [HR.out, if_pos (.inr (.inl h2))]
          have HV := Lib.hid hv
          clear hv h1 h2 q1 q2 q3
          go_wp2_with fail
          go_ret
          exact ⟨ret_int HV.out.symm, rfl⟩
        · have e2 : decide (40 < p) = false := by simpa using h2
          by_cases h3 : p = (s.size : Int) - 1
          · have e3 : (p == (s.size : Int) - 1) = true := by simpa using h3
            have hv : ptI s.data.toList = -1 := by rw [HR.out, if_pos (.inr (.inr (.inl h3)))]
            have HV := Lib.hid hv
            clear hv h1 h2 h3 q2 q3
            go_wp2_with fail
            go_ret
            exact ⟨ret_int HV.out.symm, rfl⟩
          · have e3 : (p == (s.size : Int) - 1) = false := by simpa using h3
            by_cases h4 : 40 < (s.size : Int) - p - 1
            · have e4 : decide (40 < (s.size : Int) - p - 1) = true := by simpa using h4
              have hv : ptI s.data.toList = -1 := by rw [HR.out, if_pos (.inr (.inr (.inr h4)))]
              have HV := Lib.hid hv
              clear hv h1 h2 h3 h4
              go_wp2_with fail
              go_ret
              exact ⟨ret_int HV.out.symm, rfl⟩
            · have e4 : decide (40 < (s.size : Int) - p - 1) = false := by simpa using h4
              have hv : ptI s.data.toList = p := by rw [HR.out, if_neg (fun h => by omega)]
              have HV := Lib.hid hv
              clear hv h1 h2 h3 h4
              go_wp2_with fail
              go_ret
              exact ⟨ret_int HV.out.symm, rfl⟩
theorem qSc_cons (p : Int) (c : UInt8) (l : List UInt8) (i : Int) (d : UInt8) : qSc p (c :: l) i d = if i = p then qSc p l (i + 1) d else if 49 < c ∨ (c = 49 ∧ d = 49) then false else qSc p l (i + 1) c := rfl
theorem ptI_in (l : List UInt8) (h : 0 ≤ ptI l) : 1 ≤ ptI l ∧ ptI l ≤ l.length := by
  unfold ptI at *
  cases hp : pSc l.length l 0 l.length with
  | none => rw [hp] at h; simp at h
  | some a =>
    rw [hp] at h
    simp only at h ⊢
    have h1 := pSc_in l.length l 0 l.length a hp
    split
    · rename_i h2
      rw [if_pos h2] at h
      omega
    · omega
theorem at_u8 (s : ByteArray) (k : Nat) (h : k < s.size) : s.data.toList[k]?.getD 0 = s[k] := by
  have h' : k < s.data.toList.length := by rw [Array.length_toList]; exact h
  rw [List.getElem?_eq_getElem h']
  show s.data.toList[k] = s.data[k]
  simp
theorem bne_48 (c : UInt8) : ((c.toNat : Int) != 48) = !decide (c = 48) := by
  have := u8_eq c 48
  rw [show ((48 : UInt8).toNat : Int) = 48 from rfl] at this
  rw [bne, this]
set_option maxHeartbeats 8000000 in
set_option maxRecDepth 100000 in
theorem isPlain_any (s : ByteArray) (hs : s.size ≤ maxLen) (w : World) :
    Calls Tryd.prog 19 #[.string s] w fun e w' => e = .returned (.bool (plB s.data.toList)) ∧ w = w' := by
  have cp := fun z => point_any s hs z
  unfold maxLen at hs
  have hlen : s.data.toList.length = s.size := Array.length_toList
  have hpin := ptI_in s.data.toList
  rw [hlen] at hpin
  obtain ⟨p, hp⟩ : ∃ p, ptI s.data.toList = p := ⟨_, rfl⟩
  rw [hp] at cp hpin
  have hpl : plB s.data.toList = (qSc p s.data.toList 0 48 && (decide (0 ≤ p) && ((!decide (s.data.toList[0]?.getD 0 = 48) || decide (p = 1)) && (decide (p = s.size) || !decide (s.data.toList[s.size - 1]?.getD 0 = 48))))) := by
    unfold plB; rw [hp, hlen]
  have HPL := Lib.hid hpl
  have Hlen := Lib.hid hlen
  have HPI := Lib.hid hpin
  clear hpl hp hlen hpin
  go_enter Tryd.func19, Tryd.ntmps19
  go_wp2_with (go_at_call 25; refine (cp _).mono ?_; rintro e w1 ⟨rfl, rfl⟩)
  clear cp
  go_loop [4, 5] (fun d i => ∃ k : Nat, ∃ c : UInt8, k ≤ s.size ∧ i = .int .i64 k ∧ d = .int .u8 (c.toNat : Int) ∧ qSc p s.data.toList 0 48 = qSc p (s.data.toList.drop k) k c) (fun _ i => s.size - (intOf i).toNat)
  case atStart => exact ⟨0, 48, Nat.zero_le _, rfl, rfl, by simp⟩
  case round =>
    obtain ⟨k, d, hk, rfl, rfl, hpos⟩ := hrel
    by_cases hlt : k < s.size
    · have hd := drop_step s k hlt
      rw [hd, qSc_cons] at hpos
      generalize hc : s[k] = c at *
      have q1 : IntKind.i64.wrap ((k : Int) + 1) = (k : Int) + 1 := IntWalk.i64_in _ (by omega)
      have hf : qSc p s.data.toList 0 48 = false → plB s.data.toList = false := fun h => by rw [HPL.out, h]; rfl
      have Hf := Lib.hid hf
      clear hd hf
      have u1 := u8_lt 49 c
      have u2 := u8_eq c 49
      have u3 := u8_eq d 49
      rw [show ((49 : UInt8).toNat : Int) = 49 from rfl] at u1 u2 u3
      by_cases hkp : (k : Int) = p
      · have e1 : ((k : Int) == p) = true := by simpa using hkp
        rw [if_pos hkp] at hpos
        have Hpos := Lib.hid hpos
        clear hpos hkp u1 u2 u3
        go_wp2_with fail
        go_round
        case rel => exact ⟨k + 1, d, by omega, by go_num, rfl, Hpos.out⟩
        case measure => simp [intOf]; omega
      · have e1 : ((k : Int) == p) = false := by simpa using hkp
        rw [if_neg hkp] at hpos
        by_cases h1 : 49 < c
        · rw [if_pos (.inl h1)] at hpos
          rw [decide_eq_true h1] at u1
          have Hpos := Lib.hid hpos
          clear hpos hkp h1 u2 u3
          go_wp2_with fail
          go_ret
          exact ⟨ret_bool (Hf.out Hpos.out).symm, rfl⟩
        · rw [decide_eq_false h1] at u1
          by_cases h2 : c = 49
          · rw [decide_eq_true h2] at u2
            by_cases h3 : d = 49
            · rw [if_pos (.inr ⟨h2, h3⟩)] at hpos
              rw [decide_eq_true h3] at u3
              have Hpos := Lib.hid hpos
              clear hpos hkp h1 h2 h3
              go_wp2_with fail
              go_ret
              exact ⟨ret_bool (Hf.out Hpos.out).symm, rfl⟩
            · rw [if_neg (fun h => h.elim h1 (fun h => h3 h.2))] at hpos
              rw [decide_eq_false h3] at u3
              have Hpos := Lib.hid hpos
              clear hpos hkp h1 h2 h3
              go_wp2_with fail
              go_round
              case rel => exact ⟨k + 1, c, by omega, by go_num, rfl, Hpos.out⟩
              case measure => simp [intOf]; omega
          · rw [if_neg (fun h => h.elim h1 (fun h => h2 h.1))] at hpos
            rw [decide_eq_false h2] at u2
            have Hpos := Lib.hid hpos
            clear hpos hkp h1 h2 u3
            go_wp2_with fail
            go_round
            case rel => exact ⟨k + 1, c, by omega, by go_num, rfl, Hpos.out⟩
            case measure => simp [intOf]; omega
    · obtain rfl : k = s.size := by omega
      have hq : qSc p s.data.toList 0 48 = true := by
        rw [hpos, List.drop_of_length_le (by rw [Hlen.out]; exact Nat.le_refl _)]; rfl
      have hv := HPL.out
      rw [hq, Bool.true_and] at hv
      clear hpos hq HPL hlt
      by_cases hp0 : 0 ≤ p
      · have hp1 := HPI.out hp0
        obtain ⟨m, hm⟩ : ∃ m, s.size = m + 1 := ⟨s.size - 1, by omega⟩
        have h0 : 0 < s.size := by omega
        have hml : m < s.size := by omega
        rw [decide_eq_true hp0, Bool.true_and, at_u8 s 0 h0, show s.size - 1 = m by omega, at_u8 s m hml] at hv
        have q1 : IntKind.i64.wrap ((s.size : Int) - 1) = (m : Int) := by rw [IntWalk.i64_in _ (by omega)]; omega
        have e0 : decide (0 ≤ p) = true := decide_eq_true hp0
        have e1 := bne_48 s[0]
        have e2 := bne_48 s[m]
        have e3 : (p == 1) = decide (p = 1) := by rw [Bool.eq_iff_iff]; simp
        have e4 : (p == (s.size : Int)) = decide (p = (s.size : Int)) := by rw [Bool.eq_iff_iff]; simp
        have hml2 : (m : Int) < (s.size : Int) := by omega
        generalize decide (p = 1) = b3 at *
        generalize decide (p = (s.size : Int)) = b4 at *
        generalize hs0 : s[0] = c0 at *
        generalize hsm : s[m] = cm at *
        generalize decide (c0 = 48) = b1 at *
        generalize decide (cm = 48) = b2 at *
        have HV := Lib.hid hv
        clear hv hp1 hp0 hm
        cases b1 <;> cases b3 <;> cases b4 <;> cases b2
        all_goals
          simp only [Bool.not_true, Bool.not_false] at e1 e2
          go_wp2_with fail
          go_ret
          exact ⟨ret_bool (by rw [HV.out]; rfl), rfl⟩
      · have e0 : decide (0 ≤ p) = false := decide_eq_false hp0
        rw [e0, Bool.false_and] at hv
        have HV := Lib.hid hv
        clear hv hp0
        go_wp2_with fail
        go_ret
        exact ⟨ret_bool HV.out.symm, rfl⟩
end Go.Proofs.YtfekggmdhmkemaaDoor
