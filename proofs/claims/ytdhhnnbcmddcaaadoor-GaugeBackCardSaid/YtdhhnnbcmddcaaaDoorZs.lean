/- The parts of a text and its point; the value of its digits; the walk of the reference's Value. -/
import Derived.Test.YtdhhnnbcmddcaaaDoorZr
import Derived.Test.YtdhhnnbcmddcaaaDoorWd
import Derived.Test.YtdhhnnbcmddcaaaDoorUa
import Derived.Test.YtdhhnnbcmddcaaaDoorVc
namespace Go.Proofs.YtdhhnnbcmddcaaaDoor
open Go.RowKit
set_option linter.unusedVariables false
set_option linter.unusedSimpArgs false

theorem pSc_dig (n a : Int) (rest : List UInt8) : ∀ (F : List UInt8) (i : Int), (∀ c ∈ F, okD c) → pSc n (F ++ rest) i a = pSc n rest (i + F.length) a
  | [], i, _ => by simp
  | c :: F, i, h => by
    have hc := h c List.mem_cons_self
    rw [List.cons_append, pSc_cons, if_neg (fun hb => by rcases hc with h | h | h | h <;> rw [h] at hb <;> exact absurd hb.1 (by decide)), if_neg (fun hb => by rcases hc with h | h | h | h <;> rw [h] at hb <;> exact absurd hb (by decide)), pSc_dig n a rest F (i + 1) (fun d hd => h d (List.mem_cons_of_mem _ hd))]
    congr 1
    rw [List.length_cons]; omega
theorem not_dig (c : UInt8) (h : ¬ okD c) : c < 48 ∨ 51 < c := by
  rcases (show c.toNat < 48 ∨ 51 < c.toNat ∨ (48 ≤ c.toNat ∧ c.toNat ≤ 51) by omega) with h1 | h1 | h1
  · left; exact UInt8.lt_iff_toNat_lt.2 h1
  · right; exact UInt8.lt_iff_toNat_lt.2 h1
  · exfalso
    exact h ((dig_ok c).1 (by unfold dig; simp only [Bool.and_eq_true, decide_eq_true_eq, UInt8.le_iff_toNat_le]; exact h1))
theorem pSc_bad (n : Int) (c : UInt8) (l : List UInt8) (i a : Int) (h : ¬ okD c) (h2 : ¬ (c = 46 ∧ a = n)) : pSc n (c :: l) i a = none := by
  rw [pSc_cons, if_neg h2, if_pos (not_dig c h)]
/-- The parts tell the point. -/
theorem prs_point (l : List UInt8) : ptI l = match prs l with | none => -1 | some q => (q.1.length : Int) := by
  have hF := tw_ok l
  have hR := dw_head l
  have e := tw_dw l
  have hlen : (l.length : Int) = (l.takeWhile dig).length + (l.dropWhile dig).length := by
    have := congrArg List.length e
    rw [List.length_append] at this
    omega
  have e1 := pSc_dig l.length l.length (l.dropWhile dig) (l.takeWhile dig) 0 hF
  rw [e] at e1
  unfold ptI prs
  rw [e1]
  generalize (l.takeWhile dig) = F at *
  cases hd : l.dropWhile dig with
  | nil =>
    rw [hd] at hlen
    simp only [List.length_nil] at hlen
    show (if (l.length : Int) < 1 ∨ 40 < (l.length : Int) ∨ (l.length : Int) = l.length - 1 ∨ 40 < (l.length : Int) - l.length - 1 then (-1 : Int) else l.length) = _
    by_cases hbad : F.length < 1 ∨ 40 < F.length
    · rw [if_pos hbad, if_pos (by omega)]
    · rw [if_neg hbad, if_neg (by omega)]
      simp only
      omega
  | cons c r =>
    rw [hd] at hlen hR
    simp only [List.length_cons] at hlen
    have hc := hR c rfl
    by_cases h46 : c = 46
    · subst h46
      rw [pSc_cons, if_pos ⟨rfl, rfl⟩]
      have hG := tw_ok r
      have hS := dw_head r
      have f := tw_dw r
      have hlen2 : (r.length : Int) = (r.takeWhile dig).length + (r.dropWhile dig).length := by
        have := congrArg List.length f
        rw [List.length_append] at this
        omega
      have e2 := pSc_dig l.length (0 + (F.length : Int)) (r.dropWhile dig) (r.takeWhile dig) (0 + (F.length : Int) + 1) hG
      rw [f] at e2
      rw [e2]
      cases hd2 : r.dropWhile dig with
      | nil =>
        rw [hd2] at hlen2
        simp only [List.length_nil] at hlen2
        show (if (0 + (F.length : Int)) < 1 ∨ 40 < (0 + (F.length : Int)) ∨ (0 + (F.length : Int)) = l.length - 1 ∨ 40 < (l.length : Int) - (0 + (F.length : Int)) - 1 then (-1 : Int) else 0 + (F.length : Int)) = _
        by_cases hbad : F.length < 1 ∨ 40 < F.length
        · rw [if_pos hbad, if_pos (by omega)]
        · rw [if_neg hbad]
          simp only [if_true]
          by_cases hbad2 : (r.takeWhile dig).length < 1 ∨ 40 < (r.takeWhile dig).length
          · rw [if_pos hbad2, if_pos (by omega)]
          · rw [if_neg hbad2, if_neg (by omega)]
            simp only [hd2]
            omega
      | cons c2 r2 =>
        rw [hd2] at hS
        rw [pSc_bad _ c2 r2 _ _ (hS c2 rfl) (fun h => by omega)]
        by_cases hbad : F.length < 1 ∨ 40 < F.length
        · rw [if_pos hbad]
        · rw [if_neg hbad]
          simp only [if_true, hd2]
          by_cases hbad2 : (r.takeWhile dig).length < 1 ∨ 40 < (r.takeWhile dig).length
          · rw [if_pos hbad2]
          · rw [if_neg hbad2]
    · rw [pSc_bad _ c r _ _ hc (fun h => h46 h.1)]
      simp only [if_neg h46]
      by_cases hbad : F.length < 1 ∨ 40 < F.length
      · rw [if_pos hbad]
      · rw [if_neg hbad]
/-- What the parts are. -/
theorem prs_parts (l F G : List UInt8) (h : prs l = some (F, G)) : (∀ c ∈ F, okD c) ∧ (∀ c ∈ G, okD c) ∧ 1 ≤ F.length ∧ F.length ≤ 40 ∧ G.length ≤ 40 ∧ ((G = [] ∧ l = F) ∨ (1 ≤ G.length ∧ l = F ++ 46 :: G)) := by
  have e := tw_dw l
  unfold prs at h
  split at h
  · cases h
  · rename_i hb
    split at h
    · rename_i hd
      simp only [Option.some.injEq, Prod.mk.injEq] at h
      obtain ⟨rfl, rfl⟩ := h
      rw [hd, List.append_nil] at e
      exact ⟨tw_ok l, fun c hc => (by cases hc), by omega, by omega, by simp, .inl ⟨rfl, e.symm⟩⟩
    · rename_i c r hd
      split at h
      · rename_i h46
        subst h46
        split at h
        · cases h
        · rename_i hb2
          split at h
          · rename_i hd2
            simp only [Option.some.injEq, Prod.mk.injEq] at h
            obtain ⟨rfl, rfl⟩ := h
            have f := tw_dw r
            rw [hd2, List.append_nil] at f
            rw [hd] at e
            exact ⟨tw_ok l, tw_ok r, by omega, by omega, by omega, .inr ⟨by omega, by rw [f]; exact e.symm⟩⟩
          · cases h
      · cases h
/-- The value of digits, from an exponent on. -/
def vsum : List UInt8 → Int → Int × Int → Int × Int
  | [], _, s => s
  | c :: l, k, s => vsum l (k - 1) (plusG s (timesG ((c.toNat : Int) - 48, 0) (pw k)))
theorem vsum_app (b : List UInt8) : ∀ (a : List UInt8) (k : Int) (s : Int × Int), vsum (a ++ b) k s = vsum b (k - a.length) (vsum a k s)
  | [], k, s => by simp [vsum]
  | c :: a, k, s => by
    rw [List.cons_append, vsum, vsum_app b a, vsum]
    congr 1
    rw [List.length_cons]; omega
theorem vsum_zero : ∀ (n : Nat) (k : Int) (s : Int × Int), vsum (List.replicate n 48) k s = s
  | 0, k, s => rfl
  | n + 1, k, s => by
    rw [List.replicate_succ, vsum, vsum_zero n]
    unfold plusG timesG
    apply Prod.ext <;> simp
theorem valJ_sum (D : List UInt8) (hD : D.length = 80) : ∀ j, j ≤ 80 → valJ D j = vsum (D.take j) 39 (0, 0)
  | 0, _ => by simp [valJ, vsum]
  | j + 1, h => by
    rw [valJ_succ D j (by omega), valJ_sum D hD j (by omega), List.take_succ_eq_append_getElem (show j < D.length by omega), vsum_app, List.length_take, show min j D.length = j by omega]
    show valS D _ _ = plusG _ (timesG ((D[j].toNat : Int) - 48, 0) (pw (39 - (j : Int))))
    unfold valS digA
    rw [show (39 - (39 - (j : Int))).toNat = j by omega, List.getElem?_eq_getElem (show j < D.length by omega)]
    rfl
theorem valG_parts (F G : List UInt8) (f2 : F.length ≤ 40) (g2 : G.length ≤ 40) : valG (digL F G) = vsum G (-1) (vsum F ((F.length : Int) - 1) (0, 0)) := by
  have hl : (digL F G).length = 80 := by simp [digL]; omega
  unfold valG
  rw [valJ_sum _ hl 80 (Nat.le_refl _), List.take_of_length_le (by omega)]
  unfold digL
  rw [vsum_app, vsum_app, vsum_app, vsum_zero, vsum_zero, List.length_append, List.length_replicate]
  rw [show (39 : Int) - ((40 - F.length : Nat) : Int) = (F.length : Int) - 1 by omega, show (39 : Int) - ((40 - F.length + F.length : Nat) : Int) = -1 by omega]
/-- The sum that the reference makes: the rest of a text, the place, the sum so far. -/
def rv (p : Int) : List UInt8 → Int → Int × Int → Int × Int
  | [], _, s => s
  | c :: l, i, s => rv p l (i + 1) (if i = p then s else plusG s (timesG ((c.toNat : Int) - 48, 0) (pw (if p < i then p - i else p - 1 - i))))
theorem rv_cons (p : Int) (c : UInt8) (l : List UInt8) (i : Int) (s : Int × Int) : rv p (c :: l) i s = rv p l (i + 1) (if i = p then s else plusG s (timesG ((c.toNat : Int) - 48, 0) (pw (if p < i then p - i else p - 1 - i)))) := rfl
theorem rv_low (p : Int) (rest : List UInt8) : ∀ (a : List UInt8) (i : Int) (s : Int × Int), i + a.length ≤ p → rv p (a ++ rest) i s = rv p rest (i + a.length) (vsum a (p - 1 - i) s)
  | [], i, s, _ => by simp [vsum]
  | c :: a, i, s, h => by
    rw [List.length_cons] at h
    rw [List.cons_append, rv_cons, if_neg (by omega), if_neg (by omega), rv_low p rest a (i + 1) _ (by omega), vsum]
    congr 1
    · rw [List.length_cons]; omega
    · congr 1; omega
theorem rv_high (p : Int) : ∀ (a : List UInt8) (i : Int) (s : Int × Int), p < i → rv p a i s = vsum a (p - i) s
  | [], i, s, _ => rfl
  | c :: a, i, s, h => by
    rw [rv_cons, if_neg (by omega), if_pos h, rv_high p a (i + 1) _ (by omega), vsum]
    congr 1
    omega
theorem rv_parts (l F G : List UInt8) (h : prs l = some (F, G)) : rv F.length l 0 (0, 0) = valG (digL F G) := by
  obtain ⟨hF, hG, f1, f2, g2, hl⟩ := prs_parts l F G h
  rw [valG_parts F G f2 g2]
  rcases hl with ⟨rfl, rfl⟩ | ⟨g1, rfl⟩
  · have := rv_low l.length [] l 0 (0, 0) (by omega)
    rw [List.append_nil] at this
    rw [this]
    show vsum l ((l.length : Int) - 1 - 0) (0, 0) = vsum l ((l.length : Int) - 1) (0, 0)
    rw [Int.sub_zero]
  · rw [rv_low F.length (46 :: G) F 0 (0, 0) (by omega), rv_cons, if_pos (by omega), rv_high _ G _ _ (by omega)]
    congr 1
    · omega
    · congr 1
      omega
theorem okD_num (c : UInt8) (h : okD c) : ∃ d : Nat, d ≤ 3 ∧ (c.toNat : Int) = 48 + d := by
  rcases h with rfl | rfl | rfl | rfl
  · exact ⟨0, by omega, rfl⟩
  · exact ⟨1, by omega, rfl⟩
  · exact ⟨2, by omega, rfl⟩
  · exact ⟨3, by omega, rfl⟩
/-- A digit of a text, and its exponent. -/
theorem parts_at (s : ByteArray) (F G : List UInt8) (h : prs s.data.toList = some (F, G)) (m : Nat) (hm : m < s.size) (hne : (m : Int) ≠ F.length) : okD s[m] ∧ -40 ≤ (if (F.length : Int) < m then (F.length : Int) - m else F.length - 1 - m) ∧ (if (F.length : Int) < m then (F.length : Int) - m else F.length - 1 - m) ≤ 40 := by
  obtain ⟨hF, hG, f1, f2, g2, hl⟩ := prs_parts _ F G h
  have hlen : s.data.toList.length = s.size := Array.length_toList
  have hat : s.data.toList[m]? = some s[m] := by
    have h' : m < s.data.toList.length := by rw [hlen]; exact hm
    rw [List.getElem?_eq_getElem h']
    show some s.data.toList[m] = some s.data[m]
    simp
  rcases hl with ⟨rfl, hl⟩ | ⟨g1, hl⟩
  · rw [hl] at hat hlen
    have hmem := List.mem_of_getElem? hat
    refine ⟨hF _ hmem, ?_, ?_⟩ <;> split <;> omega
  · rw [hl] at hat hlen
    rw [List.length_append, List.length_cons] at hlen
    by_cases hlt : m < F.length
    · rw [List.getElem?_append_left hlt] at hat
      refine ⟨hF _ (List.mem_of_getElem? hat), ?_, ?_⟩ <;> split <;> omega
    · rw [List.getElem?_append_right (by omega), show m - F.length = (m - F.length - 1) + 1 by omega, List.getElem?_cons_succ] at hat
      refine ⟨hG _ (List.mem_of_getElem? hat), ?_, ?_⟩ <;> split <;> omega
def isum (cur pv : Int × Int) (j : Nat) : Int × Int := (cur.1 + j * pv.1, cur.2 + j * pv.2)
end Go.Proofs.YtdhhnnbcmddcaaaDoor
