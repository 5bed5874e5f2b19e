/- The ladder's gaps arise from their own beginning, and the letters S among them: by a table of natural numbers. -/
import Derived.Test.YtioaopmoljoieaaDoorXa
namespace Go.Proofs.YtioaopmoljoieaaDoor
open Go.RowKit
set_option linter.unusedVariables false
set_option linter.unusedSimpArgs false

/-- The powers below 1002: position and coordinates, from the greatest one on. -/
def tab : List (Nat × Nat × Nat × Nat) := [(14, 987, 233, 377), (13, 610, 144, 233), (12, 377, 89, 144), (11, 233, 55, 89), (10, 144, 34, 55), (9, 89, 21, 34), (8, 55, 13, 21), (7, 34, 8, 13), (6, 21, 5, 8), (5, 13, 3, 5), (4, 8, 2, 3), (3, 5, 1, 2), (2, 3, 1, 1), (1, 2, 0, 1), (0, 1, 1, 0)]
theorem tab_ok : (tab.all fun t => posP (t.1 : Int) == (t.2.1 : Int) && (pw (t.1 : Int) == ((t.2.2.1 : Int), (t.2.2.2 : Int)))) = true := by decide +kernel
theorem tab_list : tab.map (·.1) = [14, 13, 12, 11, 10, 9, 8, 7, 6, 5, 4, 3, 2, 1, 0] := by decide
def rgN (s : Nat × Nat × Nat) (t : Nat × Nat × Nat × Nat) : Nat × Nat × Nat := bif Nat.ble t.2.1 s.1 then (s.1 - t.2.1, s.2.1 + t.2.2.1, s.2.2 + t.2.2.2) else s
def castS (s : Nat × Nat × Nat) : Int × (Int × Int) := ((s.1 : Int), ((s.2.1 : Int), (s.2.2 : Int)))
theorem rgN_cast (s : Nat × Nat × Nat) (t : Nat × Nat × Nat × Nat) (h1 : posP (t.1 : Int) = (t.2.1 : Int)) (h2 : pw (t.1 : Int) = ((t.2.2.1 : Int), (t.2.2.2 : Int))) : rgS (castS s) (t.1 : Int) = castS (rgN s t) := by
  unfold rgS rgN castS
  rw [h1, h2]
  cases hb : Nat.ble t.2.1 s.1
  · have : ¬ t.2.1 ≤ s.1 := fun h => by rw [Nat.ble_eq_true_of_le h] at hb; cases hb
    rw [if_neg (by simp only; omega)]
    rfl
  · have := Nat.le_of_ble_eq_true hb
    rw [if_pos (by simp only; omega)]
    simp only [cond_true]
    refine Prod.ext ?_ (Prod.ext ?_ ?_)
    · show (s.1 : Int) - t.2.1 = ((s.1 - t.2.1 : Nat) : Int); omega
    · simp
    · simp
def rungN (k : Nat) : Nat × Nat := (tab.foldl rgN (k, 0, 0)).2
theorem fold_cast : ∀ (l : List (Nat × Nat × Nat × Nat)) (s : Nat × Nat × Nat), (∀ t ∈ l, posP (t.1 : Int) = (t.2.1 : Int) ∧ pw (t.1 : Int) = ((t.2.2.1 : Int), (t.2.2.2 : Int))) →
    (l.map fun t => (t.1 : Int)).foldl rgS (castS s) = castS (l.foldl rgN s)
  | [], _, _ => rfl
  | t :: l, s, h => by
    obtain ⟨h1, h2⟩ := h t List.mem_cons_self
    rw [List.map_cons, List.foldl_cons, rgN_cast s t h1 h2, fold_cast l _ (fun u hu => h u (List.mem_cons_of_mem _ hu))]
    rfl
theorem pdn_split : pdn 39 40 = (pdn 39 40).take 25 ++ (tab.map fun t => (t.1 : Int)) := by decide +kernel
theorem posP_15 : (1001 : Int) < posP ((15 : Nat) : Int) := by decide +kernel
theorem rungG_nat (k : Nat) (h : k ≤ 1001) : rungG (k : Int) = (((rungN k).1 : Int), ((rungN k).2 : Int)) := by
  have h1 := rgJ_skip (k : Int) 15 (by omega) (fun e he h40 => by have := posP_mono 15 e he h40; have := posP_15; omega) 25 (by omega)
  have h2 : rgJ (k : Int) 40 = castS (tab.foldl rgN (k, 0, 0)) := by
    have e : (pdn 39 40).take 40 = pdn 39 40 := by decide +kernel
    unfold rgJ at h1 ⊢
    rw [e, pdn_split, List.foldl_append, h1]
    exact fold_cast tab (k, 0, 0) (fun t ht => by
      have := List.all_eq_true.1 tab_ok t ht
      simpa using this)
  unfold rungG rungN
  rw [h2]
  generalize tab.foldl rgN (k, 0, 0) = s
  rfl
def ltr (j : Nat) : Bool := let x := rungN (j + 1); let y := rungN j; (x.1 == y.1 + 1) && (x.2 == y.2)
theorem gapL_nat (j : Nat) (h : j ≤ 1000) : gapL (j : Int) = bif ltr j then 76 else 83 := by
  have h1 := rungG_nat (j + 1) (by omega)
  have h2 := rungG_nat j (by omega)
  have e : gapB (j : Int) = ltr j := by
    unfold gapB ltr
    rw [show (1 : Int) + (j : Int) = ((j + 1 : Nat) : Int) by omega, h1, h2]
    simp only
    rw [Bool.eq_iff_iff]
    simp only [Bool.and_eq_true, decide_eq_true_eq, beq_iff_eq]
    omega
  unfold gapL
  rw [e]
  cases ltr j <;> rfl
def lts (n : Nat) : List Bool := (List.range n).map ltr
def subB (l : List Bool) : List Bool := l.flatMap fun b => bif b then [true, false] else [true]
theorem sub_top : (subB (lts 1000)).take 1000 = lts 1000 := by decide +kernel
/-- The signs: n letters read, many of them S. -/
def okN (n many : Nat) : Bool := Nat.ble (2 * many) (3 * n) && Nat.blt (5 * (n * n)) ((3 * n + 2 - 2 * many) * (3 * n + 2 - 2 * many)) && (Nat.blt (3 * n) (2 * many + 2) || Nat.blt ((3 * n - 2 * many - 2) * (3 * n - 2 * many - 2)) (5 * (n * n)))
def allOk : List Bool → Nat → Nat → Bool
  | [], n, many => okN n many
  | b :: l, n, many => okN n many && allOk l (n + 1) (bif b then many else many + 1)
theorem signs_top : allOk (lts 1000) 0 0 = true := by decide +kernel

def cntF (l : List Bool) : Nat := l.foldl (fun n b => bif b then n else n + 1) 0
def cntS (l : List UInt8) : Nat := l.foldl (fun n c => if c = 83 then n + 1 else n) 0
theorem allOk_at : ∀ (l : List Bool) (n m j : Nat), allOk l n m = true → j ≤ l.length → okN (n + j) ((l.take j).foldl (fun n b => bif b then n else n + 1) m) = true
  | [], n, m, j, h, hj => by
    obtain rfl : j = 0 := by simpa using hj
    exact h
  | b :: l, n, m, 0, h, hj => by
    unfold allOk at h
    rw [Bool.and_eq_true] at h
    exact h.1
  | b :: l, n, m, j + 1, h, hj => by
    unfold allOk at h
    rw [Bool.and_eq_true] at h
    have := allOk_at l (n + 1) _ j h.2 (by simpa using hj)
    rw [show n + 1 + j = n + (j + 1) by omega] at this
    exact this
theorem lts_take (n : Nat) (h : n ≤ 1000) : (lts 1000).take n = lts n := by
  unfold lts
  rw [← List.map_take, List.take_range, Nat.min_eq_left h]
theorem lts_length (n : Nat) : (lts n).length = n := by simp [lts]
def gchr (b : Bool) : UInt8 := bif b then 76 else 83
theorem gapsL_nat (n : Nat) (h : n ≤ 1001) : gapsL n = (lts n).map gchr := by
  unfold gapsL lts
  have e : ∀ (l : List Nat), (∀ j ∈ l, j ≤ 1000) → l.map (fun i : Nat => gapL i) = (l.map ltr).map gchr := by
    intro l hl
    induction l with
    | nil => rfl
    | cons a l ih =>
      rw [List.map_cons, List.map_cons, List.map_cons, ih (fun j hj => hl j (List.mem_cons_of_mem _ hj)), gapL_nat a (hl a List.mem_cons_self)]
      unfold gchr
      cases ltr a <;> rfl
  exact e _ (fun j hj => by have := List.mem_range.1 hj; omega)
theorem cnt_eq : ∀ (l : List Bool) (m : Nat), (l.map gchr).foldl (fun n c => if c = 83 then n + 1 else n) m = l.foldl (fun n b => bif b then n else n + 1) m
  | [], _ => rfl
  | b :: l, m => by
    rw [List.map_cons, List.foldl_cons, List.foldl_cons, cnt_eq l]
    cases b <;> rfl
theorem signs_at (n : Nat) (h : n ≤ 1000) : okN n (cntS (gapsL n)) = true := by
  have := allOk_at (lts 1000) 0 0 n signs_top (by rw [lts_length]; exact h)
  rw [lts_take n h, Nat.zero_add] at this
  rw [gapsL_nat n (by omega)]
  unfold cntS
  rw [cnt_eq]
  exact this
/-- What the law grows out of the letters. -/
def grwS (n : Nat) (acc : List UInt8) (c : UInt8) : List UInt8 := if acc.length < n then acc ++ (if c = 83 then [76] else [76, 83]) else acc
def grw (n : Nat) (l : List UInt8) : List UInt8 := l.foldl (grwS n) []
theorem grw_snoc (n : Nat) (l : List UInt8) (c : UInt8) : grw n (l ++ [c]) = grwS n (grw n l) c := by simp [grw]
theorem grw_full (n : Nat) : ∀ (l acc : List UInt8), n ≤ acc.length → l.foldl (grwS n) acc = acc
  | [], _, _ => rfl
  | c :: l, acc, h => by
    rw [List.foldl_cons, show grwS n acc c = acc by unfold grwS; rw [if_neg (by omega)]]
    exact grw_full n l acc h
theorem grw_spec (n : Nat) : ∀ (l : List Bool) (acc : List UInt8), ∃ t u, (l.map gchr).foldl (grwS n) acc = acc ++ t ∧ t ++ u = (subB l).map gchr ∧ (n ≤ (acc ++ t).length ∨ u = [])
  | [], acc => ⟨[], [], by simp, rfl, .inr rfl⟩
  | b :: l, acc => by
    by_cases h : acc.length < n
    · have e : grwS n acc (gchr b) = acc ++ (bif b then [true, false] else [true]).map gchr := by
        unfold grwS
        rw [if_pos h]
        cases b <;> rfl
      obtain ⟨t, u, h1, h2, h3⟩ := grw_spec n l (acc ++ (bif b then [true, false] else [true]).map gchr)
      refine ⟨(bif b then [true, false] else [true]).map gchr ++ t, u, ?_, ?_, ?_⟩
      · rw [List.map_cons, List.foldl_cons, e, h1, List.append_assoc]
      · rw [List.append_assoc, h2]
        simp [subB]
      · rw [← List.append_assoc]; exact h3
    · refine ⟨[], (subB (b :: l)).map gchr, ?_, rfl, .inl (by simp; omega)⟩
      rw [grw_full n _ acc (by omega)]
      simp
theorem sub_len (l : List Bool) : l.length ≤ (subB l).length := by
  induction l with
  | nil => exact Nat.le_refl _
  | cons b l ih =>
    have e : subB (b :: l) = (bif b then [true, false] else [true]) ++ subB l := by simp [subB]
    rw [e, List.length_append, List.length_cons]
    cases b <;> simp <;> omega
theorem grw_len (n : Nat) (l : List UInt8) : (grw n l).length ≤ n + 1 := by
  have key : ∀ (l acc : List UInt8), acc.length ≤ n + 1 → (l.foldl (grwS n) acc).length ≤ n + 1 := by
    intro l
    induction l with
    | nil => intro acc h; exact h
    | cons c l ih =>
      intro acc h
      apply ih
      unfold grwS
      split
      · rw [List.length_append]; split <;> simp <;> omega
      · exact h
  exact key l [] (by simp)
/-- Gaps arises from its own beginning. -/
theorem grw_gaps (n : Nat) (h : n ≤ 1000) : n ≤ (grw n (gapsL n)).length ∧ (grw n (gapsL n)).take n = gapsL n := by
  rw [gapsL_nat n (by omega)]
  obtain ⟨t, u, h1, h2, h3⟩ := grw_spec n (lts n) []
  rw [List.nil_append] at h1 h3
  unfold grw
  rw [h1]
  have hl : n ≤ t.length := by
    rcases h3 with h3 | h3
    · exact h3
    · have := congrArg List.length h2
      rw [h3, List.append_nil, List.length_map] at this
      have := sub_len (lts n)
      rw [lts_length] at this
      omega
  refine ⟨hl, ?_⟩
  have h4 : t.take n = ((subB (lts n)).map gchr).take n := by rw [← h2, List.take_append_of_le_length hl]
  rw [h4, ← List.map_take]
  congr 1
  have h5 : subB (lts 1000) = subB (lts n) ++ subB ((lts 1000).drop n) := by
    rw [← lts_take n h]
    unfold subB
    rw [← List.flatMap_append, List.take_append_drop]
  have h6 : (subB (lts n)).take n = (subB (lts 1000)).take n := by
    rw [h5, List.take_append_of_le_length (by have := sub_len (lts n); rw [lts_length] at this; exact this)]
  rw [h6]
  have h7 := congrArg (List.take n) sub_top
  rw [List.take_take, Nat.min_eq_left h, lts_take n h] at h7
  exact h7
theorem sgn_low (n m : Nat) (h : okN n m = true) : refSgn ((m : Int) - 2 * n - 1) n < 0 ∧ 0 < refSgn ((m : Int) - 2 * n + 1) n := by
  unfold okN at h
  simp only [Bool.and_eq_true, Bool.or_eq_true, Nat.blt_eq, Nat.ble_eq] at h
  obtain ⟨⟨h1, h2⟩, h3⟩ := h
  have e5 : 5 * (n : Int) * n = ((5 * (n * n) : Nat) : Int) := by rw [Int.mul_assoc]; simp
  constructor
  · have e1 : 2 * ((m : Int) - 2 * n - 1) + n = -((3 * n + 2 - 2 * m : Nat) : Int) := by omega
    unfold refSgn
    rw [e1, e5]
    have e2 : -((3 * n + 2 - 2 * m : Nat) : Int) * -((3 * n + 2 - 2 * m : Nat) : Int) = (((3 * n + 2 - 2 * m) * (3 * n + 2 - 2 * m) : Nat) : Int) := by rw [Int.neg_mul_neg]; simp
    rw [e2]
    have hp : 0 < 3 * n + 2 - 2 * m := by omega
    generalize 3 * n + 2 - 2 * m = p at *
    generalize p * p = pp at *
    generalize 5 * (n * n) = qq at *
    (repeat' split) <;> omega
  · by_cases hc : 3 * n < 2 * m + 2
    · unfold refSgn
      have : 0 < 2 * ((m : Int) - 2 * n + 1) + n := by omega
      generalize 2 * ((m : Int) - 2 * n + 1) + n = p at *
      (repeat' split) <;> omega
    · have h3 := h3.resolve_left hc
      have e1 : 2 * ((m : Int) - 2 * n + 1) + n = -((3 * n - 2 * m - 2 : Nat) : Int) := by omega
      unfold refSgn
      rw [e1, e5]
      have e2 : -((3 * n - 2 * m - 2 : Nat) : Int) * -((3 * n - 2 * m - 2 : Nat) : Int) = (((3 * n - 2 * m - 2) * (3 * n - 2 * m - 2) : Nat) : Int) := by rw [Int.neg_mul_neg]; simp
      rw [e2]
      have hn : 0 < n := by
        rcases Nat.eq_zero_or_pos n with h | h
        · subst h; simp at h3
        · exact h
      generalize 3 * n - 2 * m - 2 = p at *
      generalize p * p = pp at *
      generalize 5 * (n * n) = qq at *
      (repeat' split) <;> omega
theorem sgn_gaps (n m : Nat) (h : okN n m = true) : sgn ((m : Int) - 2 * n - 1) n < 0 ∧ 0 < sgn ((m : Int) - 2 * n + 1) n := by
  rw [← refSgn_eq, ← refSgn_eq]; exact sgn_low n m h
end Go.Proofs.YtioaopmoljoieaaDoor
