/- The parts of the law's texts, how great their values are. -/
import Derived.Test.YtfekggmdhmkemaaDoorZx
import Derived.Test.YtfekggmdhmkemaaDoorZu
namespace Go.Proofs.YtfekggmdhmkemaaDoor
open Go.RowKit
set_option linter.unusedVariables false
set_option linter.unusedSimpArgs false

/-- Some digits of the law's text. -/
def dd (l : List UInt8) (m u v : Nat) : List UInt8 := (List.range (v - u)).map fun i => dgC m (l[u + i]?.getD 0)
theorem dd_length (l : List UInt8) (m u v : Nat) : (dd l m u v).length = v - u := by simp [dd]
theorem dd_succ (l : List UInt8) (m u v : Nat) (h : u ≤ v) : dd l m u (v + 1) = dd l m u v ++ [dgC m (l[v]?.getD 0)] := by
  unfold dd
  rw [show v + 1 - u = (v - u) + 1 by omega, List.range_succ, List.map_append]
  simp [show u + (v - u) = v by omega]
theorem dd_self (l : List UInt8) (m u : Nat) : dd l m u u = [] := by simp [dd]
theorem txJ_form (l : List UInt8) (a m : Nat) : ∀ n, txJ l a m n = if n ≤ a then dd l m 0 n else dd l m 0 a ++ 46 :: dd l m a n
  | 0 => by rw [if_pos (Nat.zero_le _), dd_self]; rfl
  | n + 1 => by
    rw [txJ, txJ_form l a m n]
    rcases Nat.lt_trichotomy n a with h | h | h
    · rw [if_pos (by omega), if_neg (by omega), if_pos (by omega), dd_succ l m 0 n (by omega), List.append_nil]
    · subst h
      rw [if_pos (Nat.le_refl _), if_pos rfl, if_neg (by omega), dd_succ l m n n (Nat.le_refl _), dd_self]
      simp
    · rw [if_neg (by omega), if_neg (by omega), if_neg (by omega), dd_succ l m a n (by omega)]
      simp
theorem dgC_ok (m : Nat) (hm : m = 2 ∨ m = 4) (c : UInt8) : okD (dgC m c) ∧ (m = 2 → dgC m c = 48 ∨ dgC m c = 49) := by
  have h := dgC_num m hm c
  have h0 : 0 ≤ (c.toNat : Int) % m := by rcases hm with rfl | rfl <;> omega
  have h1 : (c.toNat : Int) % m < m := by rcases hm with rfl | rfl <;> omega
  refine ⟨(dig_ok _).1 ?_, fun h2 => ?_⟩
  · unfold dig
    simp only [Bool.and_eq_true, decide_eq_true_eq, UInt8.le_iff_toNat_le]
    have e1 : (48 : UInt8).toNat = 48 := rfl
    have e2 : (51 : UInt8).toNat = 51 := rfl
    omega
  · subst h2
    rcases (show (dgC 2 c).toNat = 48 ∨ (dgC 2 c).toNat = 49 by omega) with h3 | h3
    · exact .inl (UInt8.toNat_inj.1 h3)
    · exact .inr (UInt8.toNat_inj.1 h3)
theorem dd_ok (l : List UInt8) (m u v : Nat) (hm : m = 2 ∨ m = 4) : ∀ c ∈ dd l m u v, okD c ∧ (m = 2 → c = 48 ∨ c = 49) := by
  intro c hc
  simp only [dd, List.mem_map] at hc
  obtain ⟨i, _, rfl⟩ := hc
  exact dgC_ok m hm _
/-- The parts of the law's text. -/
theorem law_prs (l : List UInt8) (a m : Nat) (ha1 : 1 ≤ a) (ha2 : a ≤ 12) (hm : m = 2 ∨ m = 4) : ∃ F G : List UInt8, prs (txW l a m) = some (F, G) ∧ F.length ≤ a ∧ G.length ≤ 23 ∧ (m = 2 → ∀ c ∈ F ++ G, c = 48 ∨ c = 49) ∧ (txW l a m).length ≤ 36 := by
  have hN : txN l ≤ 24 := by unfold txN; omega
  unfold txW
  by_cases h0 : txN l = 0
  · rw [if_pos h0]
    exact ⟨[48], [], by decide, by simpa using ha1, by simp, fun _ c hc => by simp at hc; exact .inl hc, by simp⟩
  · rw [if_neg h0, txJ_form]
    by_cases h1 : txN l ≤ a
    · rw [if_pos h1]
      have hl := dd_length l m 0 (txN l)
      have hk := dd_ok l m 0 (txN l) hm
      exact ⟨_, [], prs_one _ (fun c hc => (hk c hc).1) (by omega) (by omega), by omega, by simp, fun h2 c hc => (hk c (by simpa using hc)).2 h2, by omega⟩
    · rw [if_neg h1]
      have hl1 := dd_length l m 0 a
      have hl2 := dd_length l m a (txN l)
      have hk1 := dd_ok l m 0 a hm
      have hk2 := dd_ok l m a (txN l) hm
      refine ⟨_, _, prs_two _ _ (fun c hc => (hk1 c hc).1) (fun c hc => (hk2 c hc).1) (by omega) (by omega) (by omega) (by omega), by omega, by omega, fun h2 c hc => ?_, by rw [List.length_append, List.length_cons]; omega⟩
      rcases List.mem_append.1 hc with hc | hc
      · exact (hk1 c hc).2 h2
      · exact (hk2 c hc).2 h2
/-- How great a value is. -/
def capF : Nat → Int → Nat × Nat
  | 0, _ => (0, 0)
  | n + 1, k => ((pw k).1.natAbs + (capF n (k - 1)).1, (pw k).2.natAbs + (capF n (k - 1)).2)
theorem vsum_in : ∀ (l : List UInt8) (k : Int) (s : Int × Int), (∀ c ∈ l, okD c) → ((vsum l k s).1.natAbs ≤ s.1.natAbs + 3 * (capF l.length k).1 ∧ (vsum l k s).2.natAbs ≤ s.2.natAbs + 3 * (capF l.length k).2)
  | [], k, s, _ => by simp [vsum]
  | c :: l, k, s, h => by
    obtain ⟨d, hd, hc⟩ := okD_num c (h c List.mem_cons_self)
    obtain ⟨h1, h2⟩ := vsum_in l (k - 1) (plusG s (timesG ((c.toNat : Int) - 48, 0) (pw k))) (fun e he => h e (List.mem_cons_of_mem _ he))
    rw [vsum, List.length_cons, capF]
    rw [show (c.toNat : Int) - 48 = (d : Int) by omega] at *
    have e1 : (plusG s (timesG ((d : Int), 0) (pw k))).1 = s.1 + d * (pw k).1 := by simp [plusG, timesG]
    have e2 : (plusG s (timesG ((d : Int), 0) (pw k))).2 = s.2 + d * (pw k).2 := by simp [plusG, timesG]
    rw [e1] at h1
    rw [e2] at h2
    simp only
    rcases (show d = 0 ∨ d = 1 ∨ d = 2 ∨ d = 3 by omega) with rfl | rfl | rfl | rfl <;> omega
theorem cap_hi : ((List.range 13).all fun n : Nat => decide ((capF n ((n : Int) - 1)).1 ≤ 400 ∧ (capF n ((n : Int) - 1)).2 ≤ 400)) = true := by decide +kernel
theorem cap_low : ((List.range 25).all fun n : Nat => decide ((capF n (-1)).1 ≤ 200000 ∧ (capF n (-1)).2 ≤ 200000)) = true := by decide +kernel
theorem val_in (l F G : List UInt8) (h : prs l = some (F, G)) (hF : F.length ≤ 12) (hG : G.length ≤ 23) : sm2 400000 (valG (digL F G)) := by
  obtain ⟨kF, kG, f1, f2, g2, hl⟩ := prs_parts l F G h
  rw [valG_parts F G f2 g2]
  have b1 := List.all_eq_true.1 cap_hi F.length (by rw [List.mem_range]; omega)
  have b2 : ((List.range 24).all fun n : Nat => decide ((capF n (-1)).1 ≤ 130000 ∧ (capF n (-1)).2 ≤ 130000)) = true := by decide +kernel
  have b3 := List.all_eq_true.1 b2 G.length (by rw [List.mem_range]; omega)
  simp only [decide_eq_true_eq] at b1 b3
  have c1 := vsum_in F ((F.length : Int) - 1) (0, 0) kF
  have c2 := vsum_in G (-1) (vsum F ((F.length : Int) - 1) (0, 0)) kG
  simp only at c1
  unfold sm2 sm
  omega
theorem prs_nought : prs [48] = some ([48], []) ∧ valG (digL [48] []) = (0, 0) := by decide +kernel
theorem plus_comm (x y : Int × Int) : plusG x y = plusG y x := by
  unfold plusG
  apply Prod.ext <;> simp only <;> omega
theorem plus_zero (x : Int × Int) : plusG x (0, 0) = x := by
  unfold plusG
  simp
theorem arr_list (l : List UInt8) : (⟨l.toArray⟩ : ByteArray).data.toList = l := List.toList_toArray
theorem arr_size (l : List UInt8) : (⟨l.toArray⟩ : ByteArray).size = l.length := by show l.toArray.size = _; simp
end Go.Proofs.YtfekggmdhmkemaaDoor
