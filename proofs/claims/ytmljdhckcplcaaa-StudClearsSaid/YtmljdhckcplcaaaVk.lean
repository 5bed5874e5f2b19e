/- The clear orders with a beginning: the first one is the first of its own longer beginnings. -/
import Derived.Test.YtmljdhckcplcaaaSd
import Derived.Test.YtmljdhckcplcaaaSj
namespace Go.Proofs.Ytmljdhckcplcaaa
open Go.RowKit
set_option linter.unusedVariables false

theorem head_flatMap {α β : Type} {g : α → List β} {x : β} : ∀ {l : List α}, (l.flatMap g)[0]? = some x → ∃ s ∈ l, (g s)[0]? = some x
  | [], h => by simp at h
  | a :: l, h => by
    rw [List.flatMap_cons] at h
    cases hg : g a with
    | nil =>
      rw [hg, List.nil_append] at h
      obtain ⟨s, hs, hx⟩ := head_flatMap h
      exact ⟨s, by simp [hs], hx⟩
    | cons y t =>
      rw [hg] at h
      exact ⟨a, by simp, by rw [hg]; simpa using h⟩
theorem cext_take (d : Nat) : ∀ (fuel : Nat) (pre x : List Int), x ∈ cext d fuel pre → x.take pre.length = pre
  | 0, pre, x, h => by simp [cext] at h; rw [h, List.take_length]
  | fuel + 1, pre, x, h => by
    simp only [cext, List.mem_flatMap] at h
    obtain ⟨s, hs, hx⟩ := h
    split at hx
    · cases hx
    · have := cext_take d fuel _ x hx
      have h2 := congrArg (List.take pre.length) this
      rw [List.take_take] at h2
      simpa using h2
theorem take_take_min (l : List Int) (k i : Nat) (h : i < k) : (l.take k).take (i + 1) = l.take (i + 1) := by rw [List.take_take, Nat.min_eq_left (by omega)]
theorem clearB_snoc (pre : List Int) (s : Int) (h : clearB pre = true) (hl : lastB (pre ++ [s]) = false) : clearB (pre ++ [s]) = true := by
  unfold clearB at h ⊢
  rw [List.all_eq_true] at h ⊢
  intro k hk
  have hk := List.mem_range.1 hk
  rw [List.length_append, List.length_singleton] at hk
  by_cases e : k < pre.length
  · have := h k (List.mem_range.2 e)
    rwa [List.take_append_of_le_length (by omega)]
  · rw [List.take_of_length_le (by rw [List.length_append, List.length_singleton]; omega), hl]
    rfl
theorem clearB_take (l : List Int) (m : Nat) (h : clearB l = true) : clearB (l.take m) = true := by
  unfold clearB at h ⊢
  rw [List.all_eq_true] at h ⊢
  intro k hk
  have hk := List.mem_range.1 hk
  rw [List.length_take] at hk
  have := h k (List.mem_range.2 (by omega))
  rwa [take_take_min _ _ _ (by omega)]
theorem rowsB_snoc (d : Nat) (pre : List Int) (s : Nat) (hs : s < d) (h : rowsB d pre = true) (hn : (s : Int) ∉ pre) : rowsB d (pre ++ [(s : Int)]) = true := by
  unfold rowsB at h ⊢
  simp only [Bool.and_eq_true, decide_eq_true_eq] at h ⊢
  refine ⟨all_snoc' d pre s hs h.1, ?_⟩
  rw [List.nodup_append]
  refine ⟨h.2, by simp, fun a ha b hb => ?_⟩
  obtain rfl : b = s := by simpa using hb
  rintro rfl
  exact hn ha
theorem rowsB_take (d : Int) (l : List Int) (m : Nat) (h : rowsB d l = true) : rowsB d (l.take m) = true := by
  unfold rowsB at h ⊢
  simp only [Bool.and_eq_true, decide_eq_true_eq] at h ⊢
  refine ⟨List.all_eq_true.2 fun x hx => List.all_eq_true.1 h.1 x (List.mem_of_mem_take hx), h.2.sublist (List.take_sublist _ _)⟩
theorem cext_good (d : Nat) : ∀ (fuel : Nat) (pre x : List Int), rowsB d pre = true → clearB pre = true → x ∈ cext d fuel pre → rowsB d x = true ∧ clearB x = true
  | 0, pre, x, hr, hc, h => by simp [cext] at h; rw [h]; exact ⟨hr, hc⟩
  | fuel + 1, pre, x, hr, hc, h => by
    simp only [cext, List.mem_flatMap] at h
    obtain ⟨s, hs, hx⟩ := h
    split at hx
    · cases hx
    · rename_i hb
      have hb : badR pre s = false := by simpa using hb
      unfold badR at hb
      rw [Bool.or_eq_false_iff] at hb
      exact cext_good d fuel _ x (rowsB_snoc d pre s (List.mem_range.1 hs) hr (of_decide_eq_false hb.1)) (clearB_snoc pre s hc hb.2) hx
theorem cext_head (d : Nat) : ∀ (fuel : Nat) (pre x : List Int), (cext d fuel pre)[0]? = some x → ∀ k, pre.length ≤ k → k ≤ pre.length + fuel → (cext d (pre.length + fuel - k) (x.take k))[0]? = some x
  | 0, pre, x, h, k, h1, h2 => by
    obtain rfl : k = pre.length := by omega
    rw [cext_take d 0 pre x (List.mem_of_getElem? h)]
    simpa using h
  | fuel + 1, pre, x, h, k, h1, h2 => by
    by_cases e : k = pre.length
    · subst e
      rw [cext_take d (fuel + 1) pre x (List.mem_of_getElem? h), show pre.length + (fuel + 1) - pre.length = fuel + 1 by omega]
      exact h
    · simp only [cext] at h
      obtain ⟨s, hs, hx⟩ := head_flatMap h
      split at hx
      · simp at hx
      · have := cext_head d fuel _ x hx k (by simp; omega) (by simp; omega)
        rw [List.length_append, List.length_singleton] at this
        rwa [show pre.length + (fuel + 1) - k = pre.length + 1 + fuel - k by omega]
/-- A clear order lies among the ways to go on from each of its beginnings. -/
theorem cext_self (d : Nat) (L : List Int) (hr : rowsB d L = true) (hc : clearB L = true) : ∀ (fuel k : Nat), k + fuel = L.length → L ∈ cext d fuel (L.take k)
  | 0, k, h => by rw [List.take_of_length_le (by omega)]; simp [cext]
  | fuel + 1, k, h => by
    have hk : k < L.length := by omega
    unfold rowsB at hr
    simp only [Bool.and_eq_true, decide_eq_true_eq] at hr
    have hin := (hasB_iff _ _).1 (List.all_eq_true.1 hr.1 _ (nth_mem L k hk))
    obtain ⟨s, hs⟩ := Int.eq_ofNat_of_zero_le hin.1
    have hsn : L.take k ++ [(s : Int)] = L.take (k + 1) := by rw [List.take_succ_eq_append_getElem hk, ← hs]; simp [nth, hk]
    have hno : (s : Int) ∉ L.take k := by
      intro hm
      have h2 : (L.take k ++ [(s : Int)]).Nodup := by rw [hsn]; exact hr.2.sublist (List.take_sublist _ _)
      rw [List.nodup_append] at h2
      exact h2.2.2 _ hm _ (by simp) rfl
    have hl : lastB (L.take (k + 1)) = false := by
      unfold clearB at hc
      have := List.all_eq_true.1 hc k (List.mem_range.2 hk)
      simpa using this
    have hb : badR (L.take k) s = false := by
      unfold badR
      rw [hsn, hl, decide_eq_false hno]
      rfl
    simp only [cext, List.mem_flatMap]
    refine ⟨s, List.mem_range.2 (by omega), ?_⟩
    rw [if_neg (by rw [hb]; simp), hsn]
    exact cext_self d L (by unfold rowsB; simp only [Bool.and_eq_true, decide_eq_true_eq]; exact hr) hc fuel (k + 1) (by omega)
/-- If there is no clear order with a beginning of L, there is none with all of L. -/
theorem clrs_none (L : List Int) (k : Nat) (hk : k ≤ L.length) (hr : rowsB L.length L = true) (h : (clrs (L.take k) L.length)[0]? = none) : (clrs L L.length)[0]? = none := by
  unfold clrs at h ⊢
  cases hc : clearB L with
  | false => rfl
  | true =>
    exfalso
    rw [if_pos (clearB_take L k hc)] at h
    have hm := cext_self L.length L hr hc (L.length - k) k (by omega)
    rw [List.length_take, Nat.min_eq_left hk] at h
    have h0 := List.getElem?_eq_none_iff.1 h
    have := List.length_pos_of_mem hm
    omega
/-- The first clear order with a beginning: it begins so, is an order and clear, and is the first one of its own longer beginnings. -/
theorem clrs_some (start x : List Int) (d : Nat) (hl : start.length ≤ d) (hr : rowsB d start = true) (h : (clrs start d)[0]? = some x) :
    x.take start.length = start ∧ rowsB d x = true ∧ clearB x = true ∧ ∀ k, start.length ≤ k → k ≤ d → (clrs (x.take k) d)[0]? = some x := by
  unfold clrs at h
  cases hc : clearB start with
  | false => rw [hc] at h; simp at h
  | true =>
    rw [hc, if_pos rfl] at h
    have hm := List.mem_of_getElem? h
    have hg := cext_good d _ start x hr hc hm
    refine ⟨cext_take d _ start x hm, hg.1, hg.2, fun k h1 h2 => ?_⟩
    unfold clrs
    rw [if_pos (clearB_take x k hg.2)]
    have := cext_head d _ start x h k h1 (by omega)
    have hxl : (x.take k).length = k ∨ x.length < k := by rw [List.length_take]; omega
    rcases hxl with hxl | hxl
    · rw [hxl]
      rwa [show start.length + (d - start.length) - k = d - k by omega] at this
    · exfalso
      have hlen : ∀ (fuel : Nat) (pre y : List Int), y ∈ cext d fuel pre → y.length = pre.length + fuel := by
        intro fuel
        induction fuel with
        | zero => intro pre y hy; simp [cext] at hy; rw [hy]; rfl
        | succ f ih =>
          intro pre y hy
          simp only [cext, List.mem_flatMap] at hy
          obtain ⟨s, _, hy⟩ := hy
          split at hy
          · cases hy
          · rw [ih _ _ hy]; simp; omega
      have := hlen _ _ _ hm
      omega
end Go.Proofs.Ytmljdhckcplcaaa
