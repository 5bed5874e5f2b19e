/- A plain text is the one of its value; noughts in front and at the end change no value. -/
import Derived.Test.YtfekggmdhmkemaaDoorZy
namespace Go.Proofs.YtfekggmdhmkemaaDoor
open Go.RowKit
set_option linter.unusedVariables false
set_option linter.unusedSimpArgs false

/-- Digits that are 0 or 1, never two 1s in a row. -/
def ap : List UInt8 → UInt8 → Bool
  | [], _ => true
  | c :: l, d => (decide (c = 48) || (decide (c = 49) && !decide (d = 49))) && ap l c
theorem ap_app (b : List UInt8) : ∀ (a : List UInt8) (d : UInt8), ap (a ++ b) d = (ap a d && ap b (a.getLastD d))
  | [], d => by simp [ap]
  | c :: a, d => by rw [List.cons_append, ap, ap_app b a c, ap, List.getLastD_cons, Bool.and_assoc]
theorem ap_zeros : ∀ (n : Nat) (d : UInt8), ap (List.replicate n 48) d = true
  | 0, _ => rfl
  | n + 1, d => by rw [List.replicate_succ, ap, ap_zeros n]; rfl
theorem last_rep : ∀ n : Nat, (List.replicate n (48 : UInt8)).getLastD 48 = 48
  | 0 => rfl
  | n + 1 => by rw [List.replicate_succ, List.getLastD_cons]; exact last_rep n
theorem ap_cons {c : UInt8} {l : List UInt8} {d : UInt8} (h : ap (c :: l) d = true) : ap l c = true ∧ (c = 48 ∨ (c = 49 ∧ d ≠ 49)) := by
  rw [ap, Bool.and_eq_true] at h
  refine ⟨h.2, ?_⟩
  have := h.1
  simp only [Bool.or_eq_true, Bool.and_eq_true, decide_eq_true_eq, Bool.not_eq_true', decide_eq_false_iff_not] at this
  exact this
theorem ap_drop : ∀ (l : List UInt8) (d : UInt8) (n : Nat), ap l d = true → ∃ e, ap (l.drop n) e = true
  | l, d, 0, h => ⟨d, by simpa using h⟩
  | [], d, n + 1, h => ⟨d, by simp [ap]⟩
  | c :: l, d, n + 1, h => by
    rw [List.drop_succ_cons]
    exact ap_drop l c n (ap_cons h).1
theorem qSc_ap (p : Int) (rest : List UInt8) : ∀ (a : List UInt8) (i : Int) (d : UInt8), (∀ c ∈ a, okD c) → (i + a.length ≤ p ∨ p < i) → qSc p (a ++ rest) i d = true → ap a d = true ∧ qSc p rest (i + a.length) (a.getLastD d) = true
  | [], i, d, _, _, h => ⟨rfl, by simpa using h⟩
  | c :: a, i, d, hk, hp, h => by
    have hl : ((c :: a).length : Int) = a.length + 1 := by simp
    rw [List.cons_append, qSc, if_neg (by omega)] at h
    split at h
    · cases h
    · rename_i h1
      obtain ⟨h2, h3⟩ := qSc_ap p rest a (i + 1) c (fun e he => hk e (List.mem_cons_of_mem _ he)) (by omega) h
      refine ⟨?_, ?_⟩
      · rw [ap, h2, Bool.and_true]
        rcases hk c List.mem_cons_self with rfl | rfl | rfl | rfl
        · rfl
        · have hd : ¬ d = 49 := fun e => h1 (.inr ⟨rfl, e⟩)
          simp [hd]
        · exact absurd (.inl (by decide)) h1
        · exact absurd (.inl (by decide)) h1
      · rw [List.getLastD_cons, hl, show i + ((a.length : Int) + 1) = i + 1 + a.length by omega]
        exact h3
theorem plain_ap (t F G : List UInt8) (h : prs t = some (F, G)) (hq : plB t = true) : ap (F ++ G) 48 = true ∧ (F.length ≤ 1 ∨ F.head? ≠ some 48) ∧ G.getLast? ≠ some 48 := by
  obtain ⟨kF, kG, f1, f2, g2, hl⟩ := prs_parts t F G h
  have hp : ptI t = F.length := by rw [prs_point, h]
  unfold plB at hq
  rw [hp] at hq
  simp only [Bool.and_eq_true] at hq
  obtain ⟨q1, -, q3, q4⟩ := hq
  have hh : t[0]? = F[0]? := by
    rcases hl with ⟨rfl, rfl⟩ | ⟨g1, rfl⟩
    · rfl
    · rw [List.getElem?_append_left (by omega)]
  have c2 : F.length ≤ 1 ∨ F.head? ≠ some 48 := by
    simp only [Bool.or_eq_true, Bool.not_eq_true', decide_eq_false_iff_not, decide_eq_true_eq] at q3
    rcases q3 with q3 | q3
    · right
      intro e
      apply q3
      rw [hh, ← List.head?_eq_getElem?, e]; rfl
    · left; omega
  rcases hl with ⟨rfl, rfl⟩ | ⟨g1, rfl⟩
  · refine ⟨?_, c2, by simp⟩
    rw [List.append_nil]
    exact (qSc_ap t.length [] t 0 48 kF (.inl (by omega)) (by rw [List.append_nil]; exact q1)).1
  · obtain ⟨a1, r1⟩ := qSc_ap F.length (46 :: G) F 0 48 kF (.inl (by omega)) q1
    rw [qSc, if_pos (by omega)] at r1
    obtain ⟨a2, -⟩ := qSc_ap F.length [] G (0 + (F.length : Int) + 1) (F.getLastD 48) kG (.inr (by omega)) (by rw [List.append_nil]; exact r1)
    refine ⟨by rw [ap_app, a1, a2]; rfl, c2, ?_⟩
    rcases List.eq_nil_or_concat G with rfl | ⟨G', g, rfl⟩
    · simp
    · simp only [List.length_append, List.length_cons, Bool.or_eq_true, Bool.not_eq_true', decide_eq_false_iff_not, decide_eq_true_eq] at q4
      rcases q4 with q4 | q4
      · omega
      · intro e
        apply q4
        rw [List.concat_eq_append] at *
        simp only [List.getLast?_append, List.getLast?_singleton, Option.some_or, Option.some.injEq] at e
        subst e
        rw [show F ++ 46 :: (G' ++ [48]) = (F ++ 46 :: G') ++ [48] by simp, List.getElem?_append_right (by simp)]
        simp
theorem vsum_s : ∀ (l : List UInt8) (k : Int) (s : Int × Int), vsum l k s = plusG s (vsum l k (0, 0))
  | [], k, s => by simp [vsum, plusG]
  | c :: l, k, s => by
    rw [vsum, vsum, vsum_s l _ (plusG s _), vsum_s l _ (plusG (0, 0) _)]
    unfold plusG
    apply Prod.ext <;> simp only <;> omega
theorem vs48 (l : List UInt8) (k : Int) : vsum (48 :: l) k (0, 0) = vsum l (k - 1) (0, 0) := by
  rw [vsum, show ((48 : UInt8).toNat : Int) - 48 = 0 from rfl]
  congr 1
  simp [plusG, timesG]
theorem vs49 (l : List UInt8) (k : Int) : vsum (49 :: l) k (0, 0) = plusG (pw k) (vsum l (k - 1) (0, 0)) := by
  rw [vsum, vsum_s, show ((49 : UInt8).toNat : Int) - 48 = 1 from rfl]
  congr 1
  simp [plusG, timesG]
theorem pw_po_more : ((List.range 82).all fun n : Nat => decide (0 < sgn (pw ((n : Int) - 41)).1 (pw ((n : Int) - 41)).2)) = true := by decide +kernel
theorem pw_po2 (e : Int) (h1 : -41 ≤ e) (h2 : e ≤ 40) : po (pw e) := by
  have := List.all_eq_true.1 pw_po_more (e + 41).toNat (by rw [List.mem_range]; omega)
  rw [decide_eq_true_eq, show (((e + 41).toNat : Nat) : Int) - 41 = e by omega] at this
  exact this
theorem ap_in : ∀ (n : Nat) (l : List UInt8) (k : Int) (d : UInt8), l.length ≤ n → ap l d = true → k ≤ 39 → -41 ≤ k - l.length → nn (vsum l k (0, 0)) ∧ po (minusG (pw (k + 1)) (vsum l k (0, 0))) := by
  intro n
  induction n using Nat.strongRecOn with
  | ind n ih =>
  intro l k d hl ha hk hk2
  cases l with
  | nil =>
    have := pw_po2 (k + 1) (by simp at hk2; omega) (by omega)
    exact ⟨nn_zero, by rw [vsum]; unfold minusG; simpa using this⟩
  | cons c l =>
    obtain ⟨h1, h2⟩ := ap_cons ha
    rw [List.length_cons] at hl hk2
    have e := pw_next (k - 1)
    rw [show k - 1 + 2 = k + 1 by omega, show k - 1 + 1 = k by omega] at e
    have e1 : (pw (k + 1)).1 = (pw k).1 + (pw (k - 1)).1 := congrArg Prod.fst e
    have e2 : (pw (k + 1)).2 = (pw k).2 + (pw (k - 1)).2 := congrArg Prod.snd e
    have p1 := pw_po2 (k - 1) (by omega) (by omega)
    rcases h2 with rfl | ⟨rfl, -⟩
    · rw [vs48]
      obtain ⟨i1, i2⟩ := ih (n - 1) (by omega) l (k - 1) 48 (by omega) h1 (by omega) (by omega)
      rw [show k - 1 + 1 = k by omega] at i2
      exact ⟨i1, po_sum i2 (po_nn p1) (by simp only [minusG]; omega) (by simp only [minusG]; omega)⟩
    · rw [vs49]
      cases l with
      | nil =>
        have p2 := pw_po2 k (by simp at hk2; omega) (by omega)
        refine ⟨nn_sum (po_nn p2) nn_zero (by simp [plusG, vsum]) (by simp [plusG, vsum]), po_sum p1 nn_zero ?_ ?_⟩ <;> simp only [minusG, plusG, vsum] <;> omega
      | cons c2 l2 =>
        obtain ⟨h3, h4⟩ := ap_cons h1
        rw [List.length_cons] at hl hk2
        have p2 := pw_po2 k (by omega) (by omega)
        rcases h4 with rfl | ⟨-, h4⟩
        · rw [vs48]
          obtain ⟨i1, i2⟩ := ih (n - 2) (by omega) l2 (k - 1 - 1) 48 (by omega) h3 (by omega) (by omega)
          rw [show k - 1 - 1 + 1 = k - 1 by omega] at i2
          refine ⟨nn_sum (po_nn p2) i1 rfl rfl, po_sum i2 nn_zero ?_ ?_⟩ <;> simp only [minusG, plusG] <;> omega
        · exact absurd rfl h4
theorem dig_is (D : List UInt8) (hD : D.length = 80) (ha : ap D 48 = true) : ∀ n, n ≤ 80 → xr (valG D) n = vsum (D.drop n) (39 - (n : Int)) (0, 0) ∧ ∀ m, m < n → some (dgt (valG D) m) = D[m]?
  | 0, _ => by
    refine ⟨?_, fun m h => by omega⟩
    rw [List.drop_zero, show (39 - ((0 : Nat) : Int)) = 39 by omega]
    show valG D = _
    rw [valG, valJ_sum D hD 80 (Nat.le_refl _), List.take_of_length_le (by omega)]
  | n + 1, h => by
    obtain ⟨ih, dh⟩ := dig_is D hD ha n (by omega)
    have hd := List.drop_eq_getElem_cons (show n < D.length by omega)
    obtain ⟨e, he⟩ := ap_drop D 48 n ha
    rw [hd] at ih he
    obtain ⟨h1, h2⟩ := ap_cons he
    have hl : (D.drop (n + 1)).length = 80 - (n + 1) := by rw [List.length_drop, hD]
    obtain ⟨i1, i2⟩ := ap_in 80 (D.drop (n + 1)) (38 - (n : Int)) _ (by omega) h1 (by omega) (by omega)
    rw [show 38 - (n : Int) + 1 = 39 - (n : Int) by omega] at i2
    have dn : D[n]? = some D[n] := List.getElem?_eq_getElem (by omega)
    generalize D[n] = c at *
    rw [show (39 - ((n + 1 : Nat) : Int)) = 38 - (n : Int) by omega]
    have dd : xr (valG D) (n + 1) = vsum (D.drop (n + 1)) (38 - (n : Int)) (0, 0) ∧ dgt (valG D) n = c := by
      rcases h2 with rfl | ⟨rfl, -⟩
      · rw [vs48, show 39 - (n : Int) - 1 = 38 - (n : Int) by omega] at ih
        have hno : ¬ nn (minusG (xr (valG D) n) (pw (39 - (n : Int)))) := by
          rw [ih]
          exact po_not i2 (by simp only [minusG]; omega) (by simp only [minusG]; omega)
        refine ⟨?_, by unfold dgt; rw [if_neg hno]⟩
        rw [← ih]
        exact congrArg Prod.fst (xr_no _ n (by omega) hno)
      · rw [vs49, show 39 - (n : Int) - 1 = 38 - (n : Int) by omega] at ih
        have hm : minusG (xr (valG D) n) (pw (39 - (n : Int))) = vsum (D.drop (n + 1)) (38 - (n : Int)) (0, 0) := by
          rw [ih]
          unfold minusG plusG
          apply Prod.ext <;> simp only <;> omega
        have hyes : nn (minusG (xr (valG D) n) (pw (39 - (n : Int)))) := by rw [hm]; exact i1
        refine ⟨?_, by unfold dgt; rw [if_pos hyes]⟩
        rw [← hm]
        exact congrArg Prod.fst (xr_yes _ n (by omega) hyes)
    refine ⟨dd.1, fun m hm => ?_⟩
    by_cases e : m = n
    · rw [e, dd.2, dn]
    · exact dh m (by omega)
theorem plain_dig (D : List UInt8) (hD : D.length = 80) (ha : ap D 48 = true) : plainL (valG D) = D := by
  rw [plain_map]
  apply List.ext_getElem?
  intro n
  by_cases hn : n < 80
  · rw [← (dig_is D hD ha 80 (Nat.le_refl _)).2 n hn]
    simp [hn]
  · rw [List.getElem?_eq_none (by simp; omega), List.getElem?_eq_none (by omega)]
/-- A plain text is the one of its value. -/
theorem once_text (t F G : List UInt8) (h : prs t = some (F, G)) (hq : plB t = true) : textG (valG (digL F G)) = t := by
  obtain ⟨ha, hf, hg⟩ := plain_ap t F G h hq
  obtain ⟨kF, kG, f1, f2, g2, hl⟩ := prs_parts t F G h
  have hD := (dig_80 t F G h).1
  have hz : ap (digL F G) 48 = true := by
    unfold digL
    rw [List.append_assoc, ap_app, ap_zeros, last_rep, Bool.true_and, ← List.append_assoc, ap_app, ha, ap_zeros]
    rfl
  unfold textG txtL
  rw [plain_dig _ hD hz]
  rcases List.eq_nil_or_concat F with rfl | ⟨F', f, rfl⟩
  · simp at f1
  · rw [List.concat_eq_append] at *
    have hlen : (F' ++ [f]).length = F'.length + 1 := by simp
    have b : befL (digL (F' ++ [f]) G) = F' ++ [f] := by
      unfold befL digL
      rw [hlen]
      have e : List.replicate (40 - (F'.length + 1)) 48 ++ (F' ++ [f]) ++ (G ++ List.replicate (40 - G.length) 48) = (List.replicate (40 - (F'.length + 1)) 48 ++ F') ++ (f :: (G ++ List.replicate (40 - G.length) 48)) := by simp
      have el : (List.replicate (40 - (F'.length + 1)) (48 : UInt8) ++ F').length = 39 := by rw [List.length_append, List.length_replicate]; omega
      rw [e, List.take_left' el, List.getElem?_append_right (by omega), el, trimL_app 48 _ _ (fun d hd => (List.mem_replicate.1 hd).2)]
      · simp
      · intro d hd e
        subst e
        rcases hf with hf | hf
        · obtain rfl : F' = [] := by
            cases F' with
            | nil => rfl
            | cons a r => simp at hf
          simp at hd
        · apply hf
          cases F' with
          | nil => simp at hd
          | cons a r => simpa using hd
    have a : aftL (digL (F' ++ [f]) G) = G := by
      unfold aftL digL
      rw [List.drop_left' (by rw [List.length_append, List.length_replicate]; omega), trimR_app 48 G _ (fun d hd => (List.mem_replicate.1 hd).2)]
      intro d hd e
      subst e
      exact hg hd
    rw [a, b]
    rcases hl with ⟨rfl, rfl⟩ | ⟨g1, rfl⟩
    · rw [if_pos rfl]
    · rw [if_neg]
      intro e
      subst e
      simp at g1
/-- The text with a nought in front, and one at the end for each point. -/
def wd (A : List UInt8) : Nat → List UInt8
  | 0 => 48 :: A
  | n + 1 => if A[n]?.getD 0 = 46 then wd A n ++ [48] else wd A n
theorem wd_len (A : List UInt8) : ∀ n, (wd A n).length ≤ A.length + 1 + n
  | 0 => by simp [wd]
  | n + 1 => by
    have := wd_len A n
    rw [wd]
    split
    · rw [List.length_append, List.length_singleton]; omega
    · omega
theorem wd_same (A : List UInt8) (u : Nat) : ∀ d, (∀ m, u ≤ m → m < u + d → A[m]?.getD 0 ≠ 46) → wd A (u + d) = wd A u
  | 0, _ => rfl
  | d + 1, h => by
    rw [← Nat.add_assoc, wd, if_neg (h _ (by omega) (by omega)), wd_same A u d (fun m h1 h2 => h m h1 (by omega))]
theorem ok_46 (l : List UInt8) (hl : ∀ c ∈ l, okD c) (m : Nat) : l[m]?.getD 0 ≠ 46 := by
  by_cases h : m < l.length
  · rw [List.getElem?_eq_getElem h]
    intro e
    have := hl _ (List.getElem_mem h)
    rw [show l[m] = 46 from e] at this
    unfold okD at this
    revert this; decide
  · rw [List.getElem?_eq_none (by omega)]; decide
theorem wd_end (A F G : List UInt8) (h : prs A = some (F, G)) (f12 : F.length ≤ 12) (g23 : G.length ≤ 23) : ∃ G2, prs (wd A A.length) = some (48 :: F, G2) ∧ valG (digL (48 :: F) G2) = valG (digL F G) ∧ (wd A A.length).length ≤ 80 := by
  obtain ⟨kF, kG, f1, f2, g2, hl⟩ := prs_parts A F G h
  have k48 : ∀ c ∈ 48 :: F, okD c := fun c hc => by
    rcases List.mem_cons.1 hc with rfl | hc
    · exact .inl rfl
    · exact kF c hc
  have v0 : vsum (48 :: F) (((48 :: F).length : Int) - 1) (0, 0) = vsum F ((F.length : Int) - 1) (0, 0) := by
    rw [vs48, List.length_cons]
    congr 1
    omega
  rcases hl with ⟨rfl, rfl⟩ | ⟨g1, rfl⟩
  · have e := wd_same A 0 A.length (fun m _ _ => ok_46 A kF m)
    rw [Nat.zero_add] at e
    rw [e, show wd A 0 = 48 :: A from rfl]
    refine ⟨[], prs_one _ k48 (by rw [List.length_cons]; omega) (by rw [List.length_cons]; omega), ?_, by rw [List.length_cons]; omega⟩
    rw [valG_parts _ _ (by rw [List.length_cons]; omega) (by simp), valG_parts _ _ f2 (by simp), v0]
  · have e1 := wd_same (F ++ 46 :: G) 0 F.length (fun m _ hm => by rw [List.getElem?_append_left (by omega)]; exact ok_46 F kF m)
    rw [Nat.zero_add] at e1
    have e2 : wd (F ++ 46 :: G) (F.length + 1) = (48 :: (F ++ 46 :: G)) ++ [48] := by
      rw [wd, if_pos (by rw [List.getElem?_append_right (Nat.le_refl _), Nat.sub_self]; rfl), e1]; rfl
    have e3 := wd_same (F ++ 46 :: G) (F.length + 1) G.length (fun m h1 _ => by
      obtain ⟨j, rfl⟩ : ∃ j, m = F.length + (j + 1) := ⟨m - F.length - 1, by omega⟩
      rw [List.getElem?_append_right (by omega), show F.length + (j + 1) - F.length = j + 1 by omega, List.getElem?_cons_succ]
      exact ok_46 G kG j)
    have el : (F ++ 46 :: G).length = F.length + 1 + G.length := by rw [List.length_append, List.length_cons]; omega
    have e4 : (48 :: (F ++ 46 :: G)) ++ [48] = (48 :: F) ++ 46 :: (G ++ [48]) := by simp
    rw [el, e3, e2, e4]
    have kG2 : ∀ c ∈ G ++ [48], okD c := fun c hc => by
      rcases List.mem_append.1 hc with hc | hc
      · exact kG c hc
      · rw [List.mem_singleton.1 hc]; exact .inl rfl
    have gl : (G ++ [48]).length = G.length + 1 := by simp
    refine ⟨G ++ [48], prs_two _ _ k48 kG2 (by simp) (by rw [List.length_cons]; omega) (by omega) (by omega), ?_, ?_⟩
    · rw [valG_parts _ _ (by rw [List.length_cons]; omega) (by omega), valG_parts _ _ f2 g2, v0, vsum_app]
      exact vsum_zero 1 _ _
    · rw [List.length_append, List.length_cons, List.length_cons, gl]; omega
end Go.Proofs.YtfekggmdhmkemaaDoor
