/- The parts of a text and its point; the value of its digits; the walk of the reference's Value. -/
import Derived.Test.YtfekggmdhmkemaaDoorZr
import Derived.Test.YtfekggmdhmkemaaDoorWd
import Derived.Test.YtfekggmdhmkemaaDoorUa
import Derived.Test.YtfekggmdhmkemaaDoorVc
namespace Go.Proofs.YtfekggmdhmkemaaDoor
open Go.RowKit
set_option linter.unusedVariables false
set_option linter.unusedSimpArgs false

theorem pSc_dig (n a : Int) (rest : List UInt8) : ∀ (F : List UInt8) (i : Int), (∀ c ∈ F, okD c) → pSc n (F ++ rest) i a = pSc n rest (i + F.length) a
  | [], i, _ => by simp
  | c :: F, i, h => by
    have hc := h c List.mem_cons_self
    rw [List.cons_append, pSc_cons, if_neg (fun hb => by rcases hc with h | h | h | h <;> rw [h] at hb <;> exact absurd hb.1 (by decide)), if_neg (fun hb => by rcases hc with h | h | h | h <;> rw [h] at hb <;> exact absurd hb (by decide)), pSc_dig n a rest F (i + 1) (fun d hd => h d (List.mem_cons_of_mem _ hd))]
    congr 1
    rw [List.length_cons]; omega
theorem not_dig (c : UInt8) (h : ¬ okD c) : c < 48 ∨ 51 < c := by
  rcases (show c.toNat < 48 ∨ 51 < c.toNat ∨ (48 ≤ c.toNat ∧ c.toNat ≤ 51) by omega) with h1 | h1 | h1
  · left; exact UInt8.lt_iff_toNat_lt.2 h1
  · right; exact UInt8.lt_iff_toNat_lt.2 h1
  · exfalso
    exact h ((dig_ok c).1 (by unfold dig; simp only [Bool.and_eq_true, decide_eq_true_eq, UInt8.le_iff_toNat_le]; exact h1))
theorem pSc_bad (n : Int) (c : UInt8) (l : List UInt8) (i a : Int) (h : ¬ okD c) (h2 : ¬ (c = 46 ∧ a = n)) : pSc n (c :: l) i a = none := by
  rw [pSc_cons, if_neg h2, if_pos (not_dig c h)]
/-- The parts tell the point. -/
theorem prs_point (l : List UInt8) : ptI l = match prs l with | none => -1 | some q => (q.1.length : Int) := by
  have hF := tw_ok l
  have hR := dw_head l
  have e := tw_dw l
  have hlen : (l.length : Int) = (l.takeWhile dig).length + (l.dropWhile dig).length := by
    have := congrArg List.length e
    rw [List.length_append] at this
    omega
  have e1 := pSc_dig l.length l.length (l.dropWhile dig) (l.takeWhile dig) 0 hF
  rw [e] at e1
  unfold ptI prs
  rw [e1]
  generalize (l.takeWhile dig) = F at *
  cases hd : l.dropWhile dig with
  | nil =>
    rw [hd] at hlen
    simp only [List.length_nil] at hlen
    show (if (l.length : Int) < 1 ∨ 40 < (l.length : Int) ∨ (l.length : Int) = l.length - 1 ∨ 40 < (l.length : Int) - l.length - 1 then (-1 : Int) else l.length) = _
    by_cases hbad : F.length < 1 ∨ 40 < F.length
    · rw [if_pos hbad, if_pos (by omega)]
    · rw [if_neg hbad, if_neg (by omega)]
      simp only
      omega
  | cons c r =>
    rw [hd] at hlen hR
    simp only [List.length_cons] at hlen
    have hc := hR c rfl
    by_cases h46 : c = 46
    · subst h46
      rw [pSc_cons, if_pos ⟨rfl, rfl⟩]
      have hG := tw_ok r
      have hS := dw_head r
      have f := tw_dw r
      have hlen2 : (r.length : Int) = (r.takeWhile dig).length + (r.dropWhile dig).length := by
        have := congrArg List.length f
        rw [List.length_append] at this
        omega
      have e2 := pSc_dig l.length (0 + (F.length : Int)) (r.dropWhile dig) (r.takeWhile dig) (0 + (F.length : Int) + 1) hG
      rw [f] at e2
      rw [e2]
      cases hd2 : r.dropWhile dig with
      | nil =>
        rw [hd2] at hlen2
        simp only [List.length_nil] at hlen2
        show (if (0 + (F.length : Int)) < 1 ∨ 40 < (0 + (F.length : Int)) ∨ (0 + (F.length : Int)) = l.length - 1 ∨ 40 < (l.length : Int) - (0 + (F.length : Int)) - 1 then (-1 : Int) else 0 + (F.length : Int)) = _
        by_cases hbad : F.length < 1 ∨ 40 < F.length
        · rw [if_pos hbad, if_pos (by omega)]
        · rw [if_neg hbad]
          simp only [if_true]
          by_cases hbad2 : (r.takeWhile dig).length < 1 ∨ 40 < (r.takeWhile dig).length
          · rw [if_pos hbad2, if_pos (by omega)]
          · rw [if_neg hbad2, if_neg (by omega)]
            simp only [hd2]
            omega
      | cons c2 r2 =>
        rw [hd2] at hS
        rw [pSc_bad _ c2 r2 _ _ (hS c2 rfl) (fun h => by omega)]
        by_cases hbad : F.length < 1 ∨ 40 < F.length
        · rw [if_pos hbad]
        · rw [if_neg hbad]
          simp only [if_true, hd2]
          by_cases hbad2 : (r.takeWhile dig).length < 1 ∨ 40 < (r.takeWhile dig).length
          · rw [if_pos hbad2]
          · rw [if_neg hbad2]
    · rw [pSc_bad _ c r _ _ hc (fun h => h46 h.1)]
      simp only [if_neg h46]
      by_cases hbad : F.length < 1 ∨ 40 < F.length
      · rw [if_pos hbad]
      · rw [if_neg hbad]
/-- What the parts are. -/
theorem prs_parts (l F G : List UInt8) (h : prs l = some (F, G)) : (∀ c ∈ F, okD c) ∧ (∀ c ∈ G, okD c) ∧ 1 ≤ F.length ∧ F.length ≤ 40 ∧ G.length ≤ 40 ∧ ((G = [] ∧ l = F) ∨ (1 ≤ G.length ∧ l = F ++ 46 :: G)) := by
  have e := tw_dw l
  unfold prs at h
  split at h
  · cases h
  · rename_i hb
    split at h
    · rename_i hd
      simp only [Option.some.injEq, Prod.mk.injEq] at h
      obtain ⟨rfl, rfl⟩ := h
      rw [hd, List.append_nil] at e
      exact ⟨tw_ok l, fun c hc => (by cases hc), by omega, by omega, by simp, .inl ⟨rfl, e.symm⟩⟩
    · rename_i c r hd
      split at h
      · rename_i h46
        subst h46
        split at h
        · cases h
        · rename_i hb2
          split at h
          · rename_i hd2
            simp only [Option.some.injEq, Prod.mk.injEq] at h
            obtain ⟨rfl, rfl⟩ := h
            have f := tw_dw r
            rw [hd2, List.append_nil] at f
            rw [hd] at e
            exact ⟨tw_ok l, tw_ok r, by omega, by omega, by omega, .inr ⟨by omega, by rw [f]; exact e.symm⟩⟩
          · cases h
      · cases h
/-- The value of digits, from an exponent on. -/
def vsum : List UInt8 → Int → Int × Int → Int × Int
  | [], _, s => s
  | c :: l, k, s => vsum l (k - 1) (plusG s (timesG ((c.toNat : Int) - 48, 0) (pw k)))
theorem vsum_app (b : List UInt8) : ∀ (a : List UInt8) (k : Int) (s : Int × Int), vsum (a ++ b) k s = vsum b (k - a.length) (vsum a k s)
  | [], k, s => by simp [vsum]
  | c :: a, k, s => by
    rw [List.cons_append, vsum, vsum_app b a, vsum]
    congr 1
    rw [List.length_cons]; omega
theorem vsum_zero : ∀ (n : Nat) (k : Int) (s : Int × Int), vsum (List.replicate n 48) k s = s
  | 0, k, s => rfl
  | n + 1, k, s => by
    rw [List.replicate_succ, vsum, vsum_zero n]
    unfold plusG timesG
    apply Prod.ext <;> simp
theorem valJ_sum (D : List UInt8) (hD : D.length = 80) : ∀ j, j ≤ 80 → valJ D j = vsum (D.take j) 39 (0, 0)
  | 0, _ => by simp [valJ, vsum]
  | j + 1, h => by
    rw [valJ_succ D j (by omega), valJ_sum D hD j (by omega), List.take_succ_eq_append_getElem (show j < D.length by omega), vsum_app, List.length_take, show min j D.length = j by omega]
    show valS D _ _ = plusG _ (timesG ((D[j].toNat : Int) - 48, 0) (pw (39 - (j : Int))))
    unfold valS digA
    rw [show (39 - (39 - (j : Int))).toNat = j by omega, List.getElem?_eq_getElem (show j < D.length by omega)]
    rfl
theorem valG_parts (F G : List UInt8) (f2 : F.length ≤ 40) (g2 : G.length ≤ 40) : valG (digL F G) = vsum G (-1) (vsum F ((F.length : Int) - 1) (0, 0)) := by
  have hl : (digL F G).length = 80 := by simp [digL]; omega
  unfold valG
  rw [valJ_sum _ hl 80 (Nat.le_refl _), List.take_of_length_le (by omega)]
  unfold digL
  rw [vsum_app, vsum_app, vsum_app, vsum_zero, vsum_zero, List.length_append, List.length_replicate]
  rw [show (39 : Int) - ((40 - F.length : Nat) : Int) = (F.length : Int) - 1 by omega, show (39 : Int) - ((40 - F.length + F.length : Nat) : Int) = -1 by omega]
/-- The sum that the reference makes: the rest of a text, the place, the sum so far. -/
def rv (p : Int) : List UInt8 → Int → Int × Int → Int × Int
  | [], _, s => s
  | c :: l, i, s => rv p l (i + 1) (if i = p then s else plusG s (timesG ((c.toNat : Int) - 48, 0) (pw (if p < i then p - i else p - 1 - i))))
theorem rv_cons (p : Int) (c : UInt8) (l : List UInt8) (i : Int) (s : Int × Int) : rv p (c :: l) i s = rv p l (i + 1) (if i = p then s else plusG s (timesG ((c.toNat : Int) - 48, 0) (pw (if p < i then p - i else p - 1 - i)))) := rfl
theorem rv_low (p : Int) (rest : List UInt8) : ∀ (a : List UInt8) (i : Int) (s : Int × Int), i + a.length ≤ p → rv p (a ++ rest) i s = rv p rest (i + a.length) (vsum a (p - 1 - i) s)
  | [], i, s, _ => by simp [vsum]
  | c :: a, i, s, h => by
    rw [List.length_cons] at h
    rw [List.cons_append, rv_cons, if_neg (by omega), if_neg (by omega), rv_low p rest a (i + 1) _ (by omega), vsum]
    congr 1
    · rw [List.length_cons]; omega
    · congr 1; omega
theorem rv_high (p : Int) : ∀ (a : List UInt8) (i : Int) (s : Int × Int), p < i → rv p a i s = vsum a (p - i) s
  | [], i, s, _ => rfl
  | c :: a, i, s, h => by
    rw [rv_cons, if_neg (by omega), if_pos h, rv_high p a (i + 1) _ (by omega), vsum]
    congr 1
    omega
theorem rv_parts (l F G : List UInt8) (h : prs l = some (F, G)) : rv F.length l 0 (0, 0) = valG (digL F G) := by
  obtain ⟨hF, hG, f1, f2, g2, hl⟩ := prs_parts l F G h
  rw [valG_parts F G f2 g2]
  rcases hl with ⟨rfl, rfl⟩ | ⟨g1, rfl⟩
  · have := rv_low l.length [] l 0 (0, 0) (by omega)
    rw [List.append_nil] at this
    rw [this]
    show vsum l ((l.length : Int) - 1 - 0) (0, 0) = vsum l ((l.length : Int) - 1) (0, 0)
    rw [Int.sub_zero]
  · rw [rv_low F.length (46 :: G) F 0 (0, 0) (by omega), rv_cons, if_pos (by omega), rv_high _ G _ _ (by omega)]
    congr 1
    · omega
    · congr 1
      omega
theorem okD_num (c : UInt8) (h : okD c) : ∃ d : Nat, d ≤ 3 ∧ (c.toNat : Int) = 48 + d := by
  rcases h with rfl | rfl | rfl | rfl
  · exact ⟨0, by omega, rfl⟩
  · exact ⟨1, by omega, rfl⟩
  · exact ⟨2, by omega, rfl⟩
  · exact ⟨3, by omega, rfl⟩
/-- A digit of a text, and its exponent. -/
theorem parts_at (s : ByteArray) (F G : List UInt8) (h : prs s.data.toList = some (F, G)) (m : Nat) (hm : m < s.size) (hne : (m : Int) ≠ F.length) : okD s[m] ∧ -40 ≤ (if (F.length : Int) < m then (F.length : Int) - m else F.length - 1 - m) ∧ (if (F.length : Int) < m then (F.length : Int) - m else F.length - 1 - m) ≤ 40 := by
  obtain ⟨hF, hG, f1, f2, g2, hl⟩ := prs_parts _ F G h
  have hlen : s.data.toList.length = s.size := Array.length_toList
  have hat : s.data.toList[m]? = some s[m] := by
    have h' : m < s.data.toList.length := by rw [hlen]; exact hm
    rw [List.getElem?_eq_getElem h']
    show some s.data.toList[m] = some s.data[m]
    simp
  rcases hl with ⟨rfl, hl⟩ | ⟨g1, hl⟩
  · rw [hl] at hat hlen
    have hmem := List.mem_of_getElem? hat
    refine ⟨hF _ hmem, ?_, ?_⟩ <;> split <;> omega
  · rw [hl] at hat hlen
    rw [List.length_append, List.length_cons] at hlen
    by_cases hlt : m < F.length
    · rw [List.getElem?_append_left hlt] at hat
      refine ⟨hF _ (List.mem_of_getElem? hat), ?_, ?_⟩ <;> split <;> omega
    · rw [List.getElem?_append_right (by omega), show m - F.length = (m - F.length - 1) + 1 by omega, List.getElem?_cons_succ] at hat
      refine ⟨hG _ (List.mem_of_getElem? hat), ?_, ?_⟩ <;> split <;> omega
def isum (cur pv : Int × Int) (j : Nat) : Int × Int := (cur.1 + j * pv.1, cur.2 + j * pv.2)
set_option maxHeartbeats 8000000 in
set_option maxRecDepth 100000 in
theorem refValue_c (s : ByteArray) (F G : List UInt8) (hp : prs s.data.toList = some (F, G)) (w : World) :
    Calls Tryd.prog 13 #[.string s] w fun e w' => e = .returned (.agg (gv (valG (digL F G)))) ∧ Keeps w w' := by
  have hpt := prs_point s.data.toList
  rw [hp] at hpt
  simp only at hpt
  obtain ⟨hF, hG, f1, f2, g2, hl⟩ := prs_parts _ F G hp
  have hlen : s.data.toList.length = s.size := Array.length_toList
  have hsz : s.size ≤ 81 := by
    rcases hl with ⟨rfl, hl⟩ | ⟨g1, hl⟩
    · rw [hl] at hlen; omega
    · rw [hl, List.length_append, List.length_cons] at hlen; omega
  have cp := fun z => point_any s (by unfold maxLen; omega) z
  rw [hpt] at cp
  have hrv := rv_parts _ F G hp
  have hat := parts_at s F G hp
  rw [← hrv]
  clear hrv hpt hF hG hl hp g2
  obtain ⟨p, hpp⟩ : ∃ p : Int, (F.length : Int) = p := ⟨_, rfl⟩
  rw [hpp] at cp hat ⊢
  have p0 : 1 ≤ p := by omega
  have p1 : p ≤ 40 := by omega
  clear hpp f1 f2
  have Hat := Lib.hid hat
  have Hlen := Lib.hid hlen
  have cP := fun (k : Int) (h0 : -40 ≤ k) (h1 : k ≤ 40) z => refPower_c k h0 h1 z
  clear hat hlen
  have r0 : At (w.alloc (.cells #[.int .i64 0, .int .i64 0] 24)) w.heap.size 24 (gv (0, 0)) := At.new w _ _
  have b0 : At ((w.alloc (.cells #[.int .i64 0, .int .i64 0] 24)).alloc (.cells #[.int .i64 0, .int .i64 0] 24)) (w.heap.size + 1) 24 (gv (0, 0)) := At.new2 w (.cells #[.int .i64 0, .int .i64 0] 24) 24 (gv (0, 0))
  have k0 : Keeps w (w.alloc (.cells #[.int .i64 0, .int .i64 0] 24)) := Keeps.alloc (Below.refl _ _) _
  have b1 := b0.row (gv (0, 0))
  have r1 := (r0.alloc (.cells #[.int .i64 0, .int .i64 0] 24)).rowfar (by omega) (gv (0, 0)) (g' := w.heap.size + 1)
  have k1 := below_row (Keeps.alloc k0 (.cells #[.int .i64 0, .int .i64 0] 24)) (show w.heap.size ≤ w.heap.size + 1 by omega) (gv (0, 0))
  go_enter Tryd.func13, Tryd.ntmps13
  go_wp2_with (first
    | (go_at_call 25; refine (cp _).mono ?_; rintro e w1 ⟨rfl, rfl⟩)
    | (refine wpList_store_row rfl 24 _ _ rfl (w.heap.size + 1) (gv (0, 0)) rfl rfl 24 (gv (0, 0)) b0 (sizeV _) rfl (oneV _) ?_))
  clear cp b0 r0 k0
  generalize ((w.alloc (.cells #[.int .i64 0, .int .i64 0] 24)).alloc (.cells #[.int .i64 0, .int .i64 0] 24)).setRow (w.heap.size + 1) (gv (0, 0)) = W1 at *
  go_loopw [5, 6, 7] (fun i _ _ wr => ∃ m : Nat, ∃ cur : Int × Int, m ≤ s.size ∧ i = .int .i64 m ∧ sm2 ((m : Int) * 1000000000) cur ∧ rv p s.data.toList 0 (0, 0) = rv p (s.data.toList.drop m) m cur ∧ At wr (w.heap.size + 1) 24 (gv cur) ∧ At wr w.heap.size 24 (gv (0, 0)) ∧ Keeps w wr) (fun i _ _ _ => s.size - (intOf i).toNat)
  case atStart => exact ⟨0, (0, 0), Nat.zero_le _, rfl, by unfold sm2 sm; simp, by simp, b1, r1, k1⟩
  case round =>
    obtain ⟨m, cur, hm, rfl, hcur, hpos, b2, r2, k2⟩ := hrel
    clear b1 r1 k1
    generalize wr = w3 at *
    by_cases hlt : m < s.size
    · have hd := drop_step s m hlt
      rw [hd, rv_cons] at hpos
      have q1 : IntKind.i64.wrap (p - 1) = p - 1 := IntWalk.i64_in _ (by omega)
      have q2 : IntKind.i64.wrap (p - 1 - (m : Int)) = p - 1 - (m : Int) := IntWalk.i64_in _ (by omega)
      have q3 : IntKind.i64.wrap (p - 1 - (m : Int) + 1) = p - (m : Int) := by rw [IntWalk.i64_in _ (by omega)]; omega
      have q4 : IntKind.i64.wrap ((m : Int) + 1) = (m : Int) + 1 := IntWalk.i64_in _ (by omega)
      clear hd
      by_cases hmp : (m : Int) = p
      · rw [if_pos hmp] at hpos
        have d1 : decide (p < (m : Int)) = false := decide_eq_false (by omega)
        have d2 : ((m : Int) != p) = false := by simpa using hmp
        have Hpos := Lib.hid hpos
        have Hcur := Lib.hid hcur
        clear hpos hmp hcur
        go_wp2_with fail
        go_loopw [7] (fun n wr => n = .int .i64 0 ∧ wr = w3) (fun _ _ => 0)
        case atStart => exact ⟨rfl, rfl⟩
        case round =>
          obtain ⟨rfl, rfl⟩ := hrel
          go_wp2_with fail
          go_roundw
          case rel => exact ⟨m + 1, cur, by omega, by go_num, by have := Hcur.out; unfold sm2 sm at *; omega, Hpos.out, b2, r2, k2⟩
          case measure => simp [intOf]; omega
      · rw [if_neg hmp] at hpos
        obtain ⟨hok, hk0, hk1⟩ := Hat.out m hlt hmp
        obtain ⟨d, hd3, hcd⟩ := okD_num _ hok
        have d2 : ((m : Int) != p) = true := by simpa using hmp
        have u1 : IntKind.u8.wrap ((s[m].toNat : Int) - 48) = (d : Int) := by rw [hcd]; simp [IntKind.wrap, IntKind.signed, IntKind.bits]; omega
        have u2 : IntKind.i64.wrap (d : Int) = (d : Int) := IntWalk.i64_in _ (by omega)
        rw [show (s[m].toNat : Int) - 48 = (d : Int) by omega] at hpos
        obtain ⟨kk, hkk⟩ : ∃ kk, (if p < (m : Int) then p - (m : Int) else p - 1 - (m : Int)) = kk := ⟨_, rfl⟩
        rw [hkk] at hpos hk0 hk1
        have c1 := cP kk hk0 hk1
        have hps := pw_sm kk (by omega) (by omega)
        generalize pw kk = pv at *
        have hend : plusG cur (timesG ((d : Int), 0) pv) = isum cur pv d := by unfold plusG timesG isum; apply Prod.ext <;> simp
        rw [hend] at hpos
        have Hpos := Lib.hid hpos
        have Hcur := Lib.hid hcur
        have Hps := Lib.hid hps
        clear hpos hcur hps hend hok hcd
        have Hmp := Lib.hid hmp
        clear hmp
        by_cases hlo : p < (m : Int)
        · have hcs : p < (m : Int) := hlo
          have d1 : decide (p < (m : Int)) = true := decide_eq_true (by omega)
          rw [if_pos hcs] at hkk
          have Hkk := Lib.hid hkk
          clear hkk hcs
          go_wp2_with fail
          go_loopw [7] (fun n wr => ∃ j : Nat, j ≤ d ∧ n = .int .i64 j ∧ At wr (w.heap.size + 1) 24 (gv (isum cur pv j)) ∧ At wr w.heap.size 24 (gv (0, 0)) ∧ Keeps w wr) (fun n _ => d - (intOf n).toNat)
          case atStart => exact ⟨0, Nat.zero_le _, rfl, by unfold isum; simpa using b2, r2, k2⟩
          case round =>
            obtain ⟨j, hj, rfl, b4, r4, k4⟩ := hrel
            clear b2 r2 k2
            generalize wr = w5 at *
            by_cases hjd : j < d
            · have e1 : decide ((j : Int) < (d : Int)) = true := decide_eq_true (by omega)
              have q5 : IntKind.i64.wrap ((j : Int) + 1) = (j : Int) + 1 := IntWalk.i64_in _ (by omega)
              have hsum : ((isum cur pv j).1 + pv.1, (isum cur pv j).2 + pv.2) = isum cur pv (j + 1) := by unfold isum; apply Prod.ext <;> simp <;> grind
              have hsj : sm2 1000000000000 (isum cur pv j) := by
                have e1 := Hcur.out
                have e2 := Hps.out
                have e3 : j = 0 ∨ j = 1 ∨ j = 2 ∨ j = 3 := by omega
                unfold isum sm2 sm at *
                rcases e3 with rfl | rfl | rfl | rfl <;> simp only <;> omega
              have c2 := fun z => refPlus_v (isum cur pv j) pv hsj (by have := Hps.out; unfold sm2 sm at *; omega) z
              have Hs := Lib.hid hsum
              clear hsum hsj
              generalize isum cur pv j = cj at *
              go_upto_region 12 with fail
              rw [← Hkk.out] at c1
              refine region_any_inv (G := Unit) (f := ?fu) (fun _ => [.agg (gv cj), .int .i64 (p - (m : Int)), .agg (gv pv), .agg #[.int .i64 (cj.1 + pv.1), .int .i64 (cj.2 + pv.2)], undef])
                (fun _ L w' => ∃ V, Keeps w5 V ∧ w' = bif L 4 then (V.setCell ⟨(w.heap.size + 1), 0, none⟩ (.int .i64 (cj.1 + pv.1))).setCell ⟨(w.heap.size + 1), 1, none⟩ (.int .i64 (cj.2 + pv.2)) else V) () (fun _ => ?hfu) (by kernel_rfl) (by kernel_rfl) ⟨_, below_drewN (n := 1) (Below.refl _ _), rfl⟩ ?stepsu ?finu
              case hfu =>
                simp only [fill, List.toList_toArray, List.zip_cons_cons, List.zip_nil_left, List.zip_nil_right, List.foldl_cons, List.foldl_nil, Act.put, List.setIfInBounds_toArray, List.set_cons_succ, List.set_cons_zero]
                exact rfl
              case stepsu =>
                refine StepsU.cons rfl (fun g L w' hL hr hc hF => ?_) ?_
                · obtain ⟨V, k3, hw⟩ := hF
                  have e9 : L 4 = false := hc.not 4 0 rfl rfl hL
                  rw [e9, cond_false] at hw
                  subst hw
                  have E9 := Lib.hid e9
                  clear e9
                  obtain ⟨p1, p2, p3, p4⟩ := row_four (b4.later k3)
                  clear cP c1 c2
                  refine StepU.go rfl (fun K hK => ?_)
                  go_simp
                  exact hK () _ ⟨_, k3, by rw [show add L 0 4 = L 4 from rfl, E9.out]; rfl⟩
                refine StepsU.cons rfl (fun g L w' hL hr hc hF => ?_) ?_
                · obtain ⟨V, k3, hw⟩ := hF
                  have e9 : L 4 = false := hc.not 4 1 rfl rfl hL
                  rw [e9, cond_false] at hw
                  subst hw
                  have E9 := Lib.hid e9
                  clear e9
                  clear cP c1 c2
                  refine StepU.go rfl (fun K hK => ?_)
                  go_simp
                  exact hK () _ ⟨_, k3, by rw [show add L 1 4 = L 4 from rfl, E9.out]; rfl⟩
                refine StepsU.cons rfl (fun g L w' hL hr hc hF => ?_) ?_
                · obtain ⟨V, k3, hw⟩ := hF
                  have e9 : L 4 = false := hc.not 4 2 rfl rfl hL
                  rw [e9, cond_false] at hw
                  subst hw
                  have E9 := Lib.hid e9
                  clear e9
                  have call9 := c1 w'
                  have C9 := Lib.hid call9
                  clear call9
                  clear cP c1 c2
                  refine StepU.go rfl (fun K hK => ?_)
                  go_simp
                  refine C9.out.mono ?_
                  rintro e w2 ⟨rfl, b3⟩
                  exact hK () _ ⟨w2, Keeps.next k3 b3, by rw [show add L 2 4 = L 4 from rfl, E9.out]; rfl⟩
                refine StepsU.cons rfl (fun g L w' hL hr hc hF => ?_) ?_
                · obtain ⟨V, k3, hw⟩ := hF
                  have e9 : L 4 = false := hc.not 4 3 rfl rfl hL
                  rw [e9, cond_false] at hw
                  subst hw
                  have E9 := Lib.hid e9
                  clear e9
                  have call9 := c2 w'
                  have C9 := Lib.hid call9
                  clear call9
                  clear cP c1 c2
                  refine StepU.go rfl (fun K hK => ?_)
                  go_simp
                  refine C9.out.mono ?_
                  rintro e w2 ⟨rfl, b3⟩
                  exact hK () _ ⟨w2, Keeps.next k3 b3, by rw [show add L 3 4 = L 4 from rfl, E9.out]; rfl⟩
                refine StepsU.cons rfl (fun g L w' hL hr hc hF => ?_) ?_
                · obtain ⟨V, k3, hw⟩ := hF
                  have e9 : L 4 = false := hL
                  rw [e9, cond_false] at hw
                  subst hw
                  have E9 := Lib.hid e9
                  clear e9
                  obtain ⟨p1, p2, p3, p4⟩ := row_four (b4.later k3)
                  clear cP c1 c2
                  refine StepU.go rfl (fun K hK => ?_)
                  go_simp
                  exact hK () _ ⟨_, k3, by rw [add_same]; rfl⟩
                exact StepsU.nil (by simp)
              case finu =>
              intro g L w5 hall hF
              obtain ⟨V, k5, hw⟩ := hF
              rw [hall 4 (by simp), cond_true] at hw
              subst hw
              clear hall
              have k6 := Keeps.set (Keeps.set (Keeps.next k4 k5) (w.heap.size + 1) (by omega) 0 (.int .i64 (cj.1 + pv.1))) (w.heap.size + 1) (by omega) 1 (.int .i64 (cj.2 + pv.2))
              have b6 : At ((V.setCell ⟨w.heap.size + 1, 0, none⟩ (.int .i64 (cj.1 + pv.1))).setCell ⟨w.heap.size + 1, 1, none⟩ (.int .i64 (cj.2 + pv.2))) (w.heap.size + 1) 24 (gv (cj.1 + pv.1, cj.2 + pv.2)) := ((b4.later k5).set 0 _).set 1 _
              have r6 := (((r4.later k5).far (p := ⟨w.heap.size + 1, 0, none⟩) (by simp) (.int .i64 (cj.1 + pv.1))).far (p := ⟨w.heap.size + 1, 1, none⟩) (by simp) (.int .i64 (cj.2 + pv.2)))
              generalize (V.setCell ⟨w.heap.size + 1, 0, none⟩ (.int .i64 (cj.1 + pv.1))).setCell ⟨w.heap.size + 1, 1, none⟩ (.int .i64 (cj.2 + pv.2)) = X at *
              clear b4 r4 k4 k5 c1 c2
              go_wp2_with fail
              go_roundw
              case rel => exact ⟨j + 1, by omega, by go_num, by rw [← Hs.out]; exact b6, r6, k6⟩
              case measure => simp [intOf]; omega
            · obtain rfl : j = d := by omega
              have e1 : decide ((j : Int) < (j : Int)) = false := by simp
              clear hjd
              go_wp2_with fail
              go_roundw
              case rel => exact ⟨m + 1, isum cur pv j, by omega, by go_num, by
                have e1 := Hcur.out
                have e2 := Hps.out
                have e3 : j = 0 ∨ j = 1 ∨ j = 2 ∨ j = 3 := by omega
                unfold isum sm2 sm at *
                rcases e3 with rfl | rfl | rfl | rfl <;> simp only <;> omega, Hpos.out, b4, r4, k4⟩
              case measure => simp [intOf]; omega
        · have hcs : ¬ p < (m : Int) := hlo
          have d1 : decide (p < (m : Int)) = false := decide_eq_false (by omega)
          rw [if_neg hcs] at hkk
          have Hkk := Lib.hid hkk
          clear hkk hcs
          go_wp2_with fail
          go_loopw [7] (fun n wr => ∃ j : Nat, j ≤ d ∧ n = .int .i64 j ∧ At wr (w.heap.size + 1) 24 (gv (isum cur pv j)) ∧ At wr w.heap.size 24 (gv (0, 0)) ∧ Keeps w wr) (fun n _ => d - (intOf n).toNat)
          case atStart => exact ⟨0, Nat.zero_le _, rfl, by unfold isum; simpa using b2, r2, k2⟩
          case round =>
            obtain ⟨j, hj, rfl, b4, r4, k4⟩ := hrel
            clear b2 r2 k2
            generalize wr = w5 at *
            by_cases hjd : j < d
            · have e1 : decide ((j : Int) < (d : Int)) = true := decide_eq_true (by omega)
              have q5 : IntKind.i64.wrap ((j : Int) + 1) = (j : Int) + 1 := IntWalk.i64_in _ (by omega)
              have hsum : ((isum cur pv j).1 + pv.1, (isum cur pv j).2 + pv.2) = isum cur pv (j + 1) := by unfold isum; apply Prod.ext <;> simp <;> grind
              have hsj : sm2 1000000000000 (isum cur pv j) := by
                have e1 := Hcur.out
                have e2 := Hps.out
                have e3 : j = 0 ∨ j = 1 ∨ j = 2 ∨ j = 3 := by omega
                unfold isum sm2 sm at *
                rcases e3 with rfl | rfl | rfl | rfl <;> simp only <;> omega
              have c2 := fun z => refPlus_v (isum cur pv j) pv hsj (by have := Hps.out; unfold sm2 sm at *; omega) z
              have Hs := Lib.hid hsum
              clear hsum hsj
              generalize isum cur pv j = cj at *
              go_upto_region 12 with fail
              rw [← Hkk.out] at c1
              refine region_any_inv (G := Unit) (f := ?fd) (fun _ => [.agg (gv cj), .int .i64 (p - 1 - (m : Int)), .agg (gv pv), .agg #[.int .i64 (cj.1 + pv.1), .int .i64 (cj.2 + pv.2)], undef])
                (fun _ L w' => ∃ V, Keeps w5 V ∧ w' = bif L 4 then (V.setCell ⟨(w.heap.size + 1), 0, none⟩ (.int .i64 (cj.1 + pv.1))).setCell ⟨(w.heap.size + 1), 1, none⟩ (.int .i64 (cj.2 + pv.2)) else V) () (fun _ => ?hfd) (by kernel_rfl) (by kernel_rfl) ⟨_, below_drewN (n := 1) (Below.refl _ _), rfl⟩ ?stepsd ?find
              case hfd =>
                simp only [fill, List.toList_toArray, List.zip_cons_cons, List.zip_nil_left, List.zip_nil_right, List.foldl_cons, List.foldl_nil, Act.put, List.setIfInBounds_toArray, List.set_cons_succ, List.set_cons_zero]
                exact rfl
              case stepsd =>
                refine StepsU.cons rfl (fun g L w' hL hr hc hF => ?_) ?_
                · obtain ⟨V, k3, hw⟩ := hF
                  have e9 : L 4 = false := hc.not 4 0 rfl rfl hL
                  rw [e9, cond_false] at hw
                  subst hw
                  have E9 := Lib.hid e9
                  clear e9
                  obtain ⟨p1, p2, p3, p4⟩ := row_four (b4.later k3)
                  clear cP c1 c2
                  refine StepU.go rfl (fun K hK => ?_)
                  go_simp
                  exact hK () _ ⟨_, k3, by rw [show add L 0 4 = L 4 from rfl, E9.out]; rfl⟩
                refine StepsU.cons rfl (fun g L w' hL hr hc hF => ?_) ?_
                · obtain ⟨V, k3, hw⟩ := hF
                  have e9 : L 4 = false := hc.not 4 1 rfl rfl hL
                  rw [e9, cond_false] at hw
                  subst hw
                  have E9 := Lib.hid e9
                  clear e9
                  clear cP c1 c2
                  refine StepU.go rfl (fun K hK => ?_)
                  go_simp
                  exact hK () _ ⟨_, k3, by rw [show add L 1 4 = L 4 from rfl, E9.out]; rfl⟩
                refine StepsU.cons rfl (fun g L w' hL hr hc hF => ?_) ?_
                · obtain ⟨V, k3, hw⟩ := hF
                  have e9 : L 4 = false := hc.not 4 2 rfl rfl hL
                  rw [e9, cond_false] at hw
                  subst hw
                  have E9 := Lib.hid e9
                  clear e9
                  have call9 := c1 w'
                  have C9 := Lib.hid call9
                  clear call9
                  clear cP c1 c2
                  refine StepU.go rfl (fun K hK => ?_)
                  go_simp
                  refine C9.out.mono ?_
                  rintro e w2 ⟨rfl, b3⟩
                  exact hK () _ ⟨w2, Keeps.next k3 b3, by rw [show add L 2 4 = L 4 from rfl, E9.out]; rfl⟩
                refine StepsU.cons rfl (fun g L w' hL hr hc hF => ?_) ?_
                · obtain ⟨V, k3, hw⟩ := hF
                  have e9 : L 4 = false := hc.not 4 3 rfl rfl hL
                  rw [e9, cond_false] at hw
                  subst hw
                  have E9 := Lib.hid e9
                  clear e9
                  have call9 := c2 w'
                  have C9 := Lib.hid call9
                  clear call9
                  clear cP c1 c2
                  refine StepU.go rfl (fun K hK => ?_)
                  go_simp
                  refine C9.out.mono ?_
                  rintro e w2 ⟨rfl, b3⟩
                  exact hK () _ ⟨w2, Keeps.next k3 b3, by rw [show add L 3 4 = L 4 from rfl, E9.out]; rfl⟩
                refine StepsU.cons rfl (fun g L w' hL hr hc hF => ?_) ?_
                · obtain ⟨V, k3, hw⟩ := hF
                  have e9 : L 4 = false := hL
                  rw [e9, cond_false] at hw
                  subst hw
                  have E9 := Lib.hid e9
                  clear e9
                  obtain ⟨p1, p2, p3, p4⟩ := row_four (b4.later k3)
                  clear cP c1 c2
                  refine StepU.go rfl (fun K hK => ?_)
                  go_simp
                  exact hK () _ ⟨_, k3, by rw [add_same]; rfl⟩
                exact StepsU.nil (by simp)
              case find =>
              intro g L w5 hall hF
              obtain ⟨V, k5, hw⟩ := hF
              rw [hall 4 (by simp), cond_true] at hw
              subst hw
              clear hall
              have k6 := Keeps.set (Keeps.set (Keeps.next k4 k5) (w.heap.size + 1) (by omega) 0 (.int .i64 (cj.1 + pv.1))) (w.heap.size + 1) (by omega) 1 (.int .i64 (cj.2 + pv.2))
              have b6 : At ((V.setCell ⟨w.heap.size + 1, 0, none⟩ (.int .i64 (cj.1 + pv.1))).setCell ⟨w.heap.size + 1, 1, none⟩ (.int .i64 (cj.2 + pv.2))) (w.heap.size + 1) 24 (gv (cj.1 + pv.1, cj.2 + pv.2)) := ((b4.later k5).set 0 _).set 1 _
              have r6 := (((r4.later k5).far (p := ⟨w.heap.size + 1, 0, none⟩) (by simp) (.int .i64 (cj.1 + pv.1))).far (p := ⟨w.heap.size + 1, 1, none⟩) (by simp) (.int .i64 (cj.2 + pv.2)))
              generalize (V.setCell ⟨w.heap.size + 1, 0, none⟩ (.int .i64 (cj.1 + pv.1))).setCell ⟨w.heap.size + 1, 1, none⟩ (.int .i64 (cj.2 + pv.2)) = X at *
              clear b4 r4 k4 k5 c1 c2
              go_wp2_with fail
              go_roundw
              case rel => exact ⟨j + 1, by omega, by go_num, by rw [← Hs.out]; exact b6, r6, k6⟩
              case measure => simp [intOf]; omega
            · obtain rfl : j = d := by omega
              have e1 : decide ((j : Int) < (j : Int)) = false := by simp
              clear hjd
              go_wp2_with fail
              go_roundw
              case rel => exact ⟨m + 1, isum cur pv j, by omega, by go_num, by
                have e1 := Hcur.out
                have e2 := Hps.out
                have e3 : j = 0 ∨ j = 1 ∨ j = 2 ∨ j = 3 := by omega
                unfold isum sm2 sm at *
                rcases e3 with rfl | rfl | rfl | rfl <;> simp only <;> omega, Hpos.out, b4, r4, k4⟩
              case measure => simp [intOf]; omega
    · obtain rfl : m = s.size := by omega
      have hv : rv p s.data.toList 0 (0, 0) = cur := by
        rw [hpos, List.drop_of_length_le (by rw [Hlen.out]; exact Nat.le_refl _)]; rfl
      have HV := Lib.hid hv
      clear hv hpos hcur
      go_wp2_with (first
        | (refine load_row_w rfl 24 _ rfl _ rfl 24 _ _ _ b2 Tryd.underlying24 rfl (sizeV _) ?_)
        | (refine wpList_store_row rfl 24 _ _ rfl w.heap.size (gv cur) rfl rfl 24 (gv (0, 0)) r2 (sizeV _) rfl (oneV _) ?_))
      exact bodyPost_ret (results_cell_row Tryd.results13 _ _ w.heap.size _ _ _ _ rfl (r2.row (gv cur)) Tryd.underlying24 rfl (sizeV _)) rfl ⟨by rw [HV.out], below_row k2 (Nat.le_refl _) _⟩
end Go.Proofs.YtfekggmdhmkemaaDoor
