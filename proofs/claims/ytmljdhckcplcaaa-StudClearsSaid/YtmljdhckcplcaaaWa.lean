/- Lists in lexicographic order; all clear orders level by level; the first one with a beginning. -/
import Derived.Test.YtmljdhckcplcaaaVk
import Derived.Test.YtmljdhckcplcaaaRc
namespace Go.Proofs.Ytmljdhckcplcaaa
open Go.RowKit
set_option linter.unusedVariables false
set_option linter.unusedSimpArgs false

/-- -1, 0 or 1, as one list stands before, at or behind another one. -/
def cmpL : List Int → List Int → Int
  | [], [] => 0
  | [], _ :: _ => -1
  | _ :: _, [] => 1
  | a :: x, b :: y => if a < b then -1 else if b < a then 1 else cmpL x y
def lowB (a b : List Int) : Bool := decide (cmpL a b = -1)
theorem nth_cons0 (a : Int) (x : List Int) : nth (a :: x) 0 = a := rfl
theorem nth_conss (a : Int) (x : List Int) (k : Nat) : nth (a :: x) (k + 1) = nth x k := by simp [nth]
theorem cmpL_at : ∀ (k : Nat) (a b : List Int), k < a.length → k < b.length → (∀ j, j < k → nth a j = nth b j) → nth a k ≠ nth b k → cmpL a b = if nth a k < nth b k then -1 else 1
  | _, [], _, h, _, _, _ => by simp at h
  | _, _ :: _, [], _, h, _, _ => by simp at h
  | 0, a :: x, b :: y, _, _, _, hn => by
    rw [nth_cons0, nth_cons0] at hn ⊢
    unfold cmpL
    by_cases h : a < b
    · rw [if_pos h, if_pos h]
    · rw [if_neg h, if_neg h, if_pos (by omega)]
  | k + 1, a :: x, b :: y, h1, h2, hj, hn => by
    have h0 := hj 0 (by omega)
    rw [nth_cons0, nth_cons0] at h0
    rw [nth_conss, nth_conss] at hn ⊢
    unfold cmpL
    rw [if_neg (by omega), if_neg (by omega)]
    exact cmpL_at k x y (by simpa using h1) (by simpa using h2) (fun j h => by have := hj (j + 1) (by omega); rwa [nth_conss, nth_conss] at this) hn
theorem cmpL_self : ∀ (a : List Int), cmpL a a = 0
  | [] => rfl
  | a :: x => by unfold cmpL; rw [if_neg (by omega), if_neg (by omega)]; exact cmpL_self x
theorem cmpL_same (a b : List Int) (hl : a.length = b.length) (h : ∀ j, j < a.length → nth a j = nth b j) : cmpL a b = 0 := by
  have : a = b := by
    apply List.ext_getElem hl
    intro k h1 h2
    have := h k h1
    simpa [nth, List.getElem?_eq_getElem h1, List.getElem?_eq_getElem h2] using this
  rw [this]; exact cmpL_self b
theorem cmpL_swap : ∀ (a b : List Int), cmpL b a = -cmpL a b
  | [], [] => rfl
  | [], _ :: _ => rfl
  | _ :: _, [] => rfl
  | a :: x, b :: y => by
    unfold cmpL
    by_cases h : a < b
    · rw [if_pos h, if_neg (by omega), if_pos h]; rfl
    · by_cases h2 : b < a
      · rw [if_pos h2, if_neg h, if_pos h2]
      · rw [if_neg h2, if_neg h, if_neg h, if_neg h2]; exact cmpL_swap x y
theorem lowB_asym {a b : List Int} (h : lowB a b = true) : lowB b a = false := by
  unfold lowB at h ⊢
  rw [cmpL_swap, of_decide_eq_true h]
  rfl
theorem lowB_irr (a : List Int) : lowB a a = false := by unfold lowB; rw [cmpL_self]; rfl
theorem nth_of_take {x p : List Int} {k : Nat} (h : x.take k = p) {j : Nat} (hj : j < k) : nth x j = nth p j := by
  rw [← h]; simp [nth, hj, List.getElem?_take]
theorem cext_sorted (d : Nat) : ∀ (fuel : Nat) (pre : List Int), (cext d fuel pre).Pairwise fun a b => lowB a b = true
  | 0, pre => by simp [cext]
  | fuel + 1, pre => by
    simp only [cext, List.pairwise_flatMap]
    refine ⟨fun s _ => ?_, ?_⟩
    · split
      · exact List.Pairwise.nil
      · exact cext_sorted d fuel _
    · refine List.pairwise_lt_range.imp ?_
      intro s t hst x hx y hy
      split at hx
      · cases hx
      split at hy
      · cases hy
      have h1 := cext_take d fuel _ x hx
      have h2 := cext_take d fuel _ y hy
      have l1 : pre.length < x.length := by have := congrArg List.length h1; simp at this; omega
      have l2 : pre.length < y.length := by have := congrArg List.length h2; simp at this; omega
      rw [List.length_append, List.length_singleton] at h1 h2
      have e1 : nth x pre.length = s := by rw [nth_of_take h1 (by omega)]; simp [nth]
      have e2 : nth y pre.length = t := by rw [nth_of_take h2 (by omega)]; simp [nth]
      unfold lowB
      rw [cmpL_at pre.length x y l1 l2 (fun j hj => by rw [nth_of_take h1 (by omega), nth_of_take h2 (by omega)]; simp [nth, List.getElem?_append_left hj]) (by omega), if_pos (by omega)]
      rfl
theorem clrs_sorted (start : List Int) (d : Nat) : (clrs start d).Pairwise fun a b => lowB a b = true := by
  unfold clrs
  split
  · exact cext_sorted _ _ _
  · exact List.Pairwise.nil
/-- The first one behind the k-th of a sorted list is the next one. -/
theorem find_next {xs : List (List Int)} (hp : xs.Pairwise fun a b => lowB a b = true) {k : Nat} {x : List Int} (hx : xs[k]? = some x) : xs.find? (lowB x) = xs[k + 1]? := by
  obtain ⟨hk, rfl⟩ := List.getElem?_eq_some_iff.1 hx
  rw [List.pairwise_iff_getElem] at hp
  have h1 : (xs.take (k + 1)).find? (lowB xs[k]) = none := by
    rw [List.find?_eq_none]
    intro y hy
    obtain ⟨i, hi, rfl⟩ := List.getElem_of_mem hy
    rw [List.length_take] at hi
    rw [List.getElem_take]
    by_cases e : i = k
    · subst e; rw [lowB_irr]; simp
    · rw [lowB_asym (hp i k (by omega) hk (by omega))]; simp
  have h2 : ∀ hk1 : k + 1 < xs.length, lowB xs[k] xs[k + 1] = true := fun hk1 => hp k (k + 1) hk hk1 (by omega)
  generalize lowB xs[k] = p at *
  have e : xs.find? p = (xs.take (k + 1) ++ xs.drop (k + 1)).find? p := by rw [List.take_append_drop]
  rw [e, List.find?_append, h1, Option.none_or]
  by_cases hk1 : k + 1 < xs.length
  · rw [List.drop_eq_getElem_cons hk1, List.find?_cons, h2 hk1, List.getElem?_eq_getElem hk1]
  · rw [List.drop_eq_nil_of_le (by omega), List.getElem?_eq_none (by omega)]; rfl

/-- All clear beginnings, level by level. -/
def goodB (n : Nat) (m : List Int) : Bool := rowsB n m && clearB m
def stepL (n : Nat) (l : List Int) : List (List Int) := ((List.range n).map fun x : Nat => l ++ [(x : Int)]).filter (goodB n)
def lvl (n : Nat) : Nat → List (List Int)
  | 0 => [[]]
  | i + 1 => (lvl n i).flatMap (stepL n)
theorem lvl_good (n : Nat) : ∀ (i : Nat) (l : List Int), l ∈ lvl n i → goodB n l = true ∧ l.length = i
  | 0, l, h => by obtain rfl : l = [] := by simpa [lvl] using h
                  exact ⟨rfl, rfl⟩
  | i + 1, l, h => by
    simp only [lvl, List.mem_flatMap, stepL, List.mem_filter, List.mem_map] at h
    obtain ⟨p, hp, ⟨s, _, rfl⟩, hg⟩ := h
    exact ⟨hg, by rw [List.length_append, (lvl_good n i p hp).2]; rfl⟩
theorem bad_good (n : Nat) (l : List Int) (s : Nat) (hs : s < n) (h : goodB n l = true) : badR l s = !goodB n (l ++ [(s : Int)]) := by
  unfold goodB at h
  rw [Bool.and_eq_true] at h
  cases hb : badR l s with
  | false =>
    unfold badR at hb
    rw [Bool.or_eq_false_iff] at hb
    unfold goodB
    rw [rowsB_snoc n l s hs h.1 (of_decide_eq_false hb.1), clearB_snoc l s h.2 hb.2]
    rfl
  | true =>
    unfold badR at hb
    rw [Bool.or_eq_true] at hb
    have : goodB n (l ++ [(s : Int)]) = false := by
      rw [Bool.eq_false_iff]
      intro hg
      unfold goodB at hg
      rw [Bool.and_eq_true] at hg
      rcases hb with hb | hb
      · have h1 := hg.1
        unfold rowsB at h1
        simp only [Bool.and_eq_true, decide_eq_true_eq] at h1
        have h2 := h1.2
        rw [List.nodup_append] at h2
        exact h2.2.2 _ (of_decide_eq_true hb) _ (by simp) rfl
      · have h1 := hg.2
        unfold clearB at h1
        have := List.all_eq_true.1 h1 l.length (List.mem_range.2 (by simp))
        rw [List.take_of_length_le (by simp), hb] at this
        simp at this
    rw [this]; rfl
theorem filter_flatMap {α β : Type} (f : Nat → α) (p : α → Bool) (g : α → List β) : ∀ (l : List Nat), ((l.map f).filter p).flatMap g = l.flatMap fun s => if p (f s) then g (f s) else []
  | [] => rfl
  | a :: l => by
    rw [List.map_cons, List.filter_cons, List.flatMap_cons, ← filter_flatMap f p g l]
    split
    · rw [List.flatMap_cons]
    · rw [List.nil_append]
theorem flatMap_congr' {α β : Type} {f g : α → List β} : ∀ {l : List α}, (∀ x ∈ l, f x = g x) → l.flatMap f = l.flatMap g
  | [], _ => rfl
  | a :: l, h => by rw [List.flatMap_cons, List.flatMap_cons, h a (by simp), flatMap_congr' fun x hx => h x (by simp [hx])]
theorem cext_step (n j : Nat) (l : List Int) (h : goodB n l = true) : cext n (j + 1) l = (stepL n l).flatMap (cext n j) := by
  unfold stepL
  rw [filter_flatMap]
  simp only [cext]
  refine flatMap_congr' fun s hs => ?_
  rw [bad_good n l s (List.mem_range.1 hs) h]
  cases goodB n (l ++ [(s : Int)]) <;> rfl
theorem lvl_cext (n : Nat) : ∀ (i j : Nat), i + j = n → (lvl n i).flatMap (cext n j) = clrs [] n := by
  intro i
  induction i with
  | zero =>
    intro j h
    obtain rfl : j = n := by omega
    simp [lvl, clrs, clearB]
  | succ i ih =>
    intro j h
    rw [← ih (j + 1) (by omega)]
    show ((lvl n i).flatMap (stepL n)).flatMap (cext n j) = _
    rw [List.flatMap_assoc]
    exact flatMap_congr' fun l hl => (cext_step n j l (lvl_good n i l hl).1).symm
theorem lvl_all (n : Nat) : lvl n n = clrs [] n := by
  rw [← lvl_cext n n 0 rfl]
  have : ∀ (l : List (List Int)), l.flatMap (cext n 0) = l := fun l => by
    induction l with
    | nil => rfl
    | cons a l ih => rw [List.flatMap_cons, ih]; rfl
  exact (this _).symm

theorem findSome_one {β : Type} {f : Nat → Option β} {s : Nat} : ∀ {l : List Nat}, s ∈ l → (∀ t ∈ l, t ≠ s → f t = none) → l.findSome? f = f s
  | [], h, _ => by cases h
  | a :: l, h, hn => by
    rw [List.findSome?_cons]
    by_cases e : a = s
    · subst e
      cases hf : f a with
      | some y => rfl
      | none =>
        show List.findSome? f l = none
        rw [List.findSome?_eq_none_iff]
        intro t ht
        by_cases e : t = a
        · rw [e]; exact hf
        · exact hn t (by simp [ht]) e
    · rw [hn a (by simp) e]
      exact findSome_one ((List.mem_cons.1 h).resolve_left fun h => e h.symm) fun t ht => hn t (by simp [ht])
/-- The first clear order that begins with a list is the first that arises from it. -/
theorem begin_first (d : Nat) (start : List Int) (hr : rowsB d start = true) (hl : start.length ≤ d) : (clrs [] d).find? (fun x => decide (x.take start.length = start)) = (clrs start d)[0]? := by
  have key : ∀ (f i : Nat), i + f = start.length → clearB (start.take i) = true → (cext d (d - i) (start.take i)).find? (fun x => decide (x.take start.length = start)) = (clrs start d)[0]? := by
    intro f
    induction f with
    | zero =>
      intro i h hc
      rw [List.take_of_length_le (by omega)] at hc ⊢
      unfold clrs
      rw [if_pos hc, show d - i = d - start.length by omega]
      have := fun x => cext_take d (d - start.length) start x
      generalize cext d (d - start.length) start = xs at *
      cases xs with
      | nil => rfl
      | cons x xs => rw [List.find?_cons, decide_eq_true (this x (by simp))]; rfl
    | succ f ih =>
      intro i h hc
      have hi : i < start.length := by omega
      unfold rowsB at hr
      simp only [Bool.and_eq_true, decide_eq_true_eq] at hr
      have hin := (hasB_iff _ _).1 (List.all_eq_true.1 hr.1 _ (nth_mem start i hi))
      obtain ⟨s, hs⟩ := Int.eq_ofNat_of_zero_le hin.1
      have hsn : start.take i ++ [(s : Int)] = start.take (i + 1) := by rw [List.take_succ_eq_append_getElem hi, ← hs]; simp [nth, hi]
      have hno : (s : Int) ∉ start.take i := by
        intro hm
        have h2 : (start.take i ++ [(s : Int)]).Nodup := by rw [hsn]; exact hr.2.sublist (List.take_sublist _ _)
        rw [List.nodup_append] at h2
        exact h2.2.2 _ hm _ (by simp) rfl
      rw [show d - i = (d - (i + 1)) + 1 by omega]
      simp only [cext]
      rw [List.find?_flatMap, findSome_one (s := s) (List.mem_range.2 (by omega)) ?_]
      · rw [hsn]
        unfold badR
        rw [decide_eq_false hno, Bool.false_or, hsn]
        cases hlb : lastB (start.take (i + 1)) with
        | false =>
          refine ih (i + 1) (by omega) ?_
          rw [← hsn]
          exact clearB_snoc _ _ hc (by rw [hsn]; exact hlb)
        | true =>
          have : clearB start = false := by
            rw [Bool.eq_false_iff]
            intro hcs
            unfold clearB at hcs
            have := List.all_eq_true.1 hcs i (List.mem_range.2 hi)
            rw [hlb] at this
            simp at this
          unfold clrs
          rw [this]
          rfl
      · intro t ht hts
        rw [List.find?_eq_none]
        intro x hx
        split at hx
        · cases hx
        have h1 := cext_take d _ _ x hx
        have hlt : (start.take i).length = i := by rw [List.length_take]; omega
        rw [List.length_append, List.length_singleton, hlt] at h1
        intro hd
        have h2 := of_decide_eq_true hd
        have e1 : nth x i = t := by rw [nth_of_take h1 (by omega)]; simp [nth, hlt, List.getElem?_append_right]
        have e2 : nth x i = nth start i := nth_of_take h2 hi
        omega
  have := key start.length 0 (by omega) (by rfl)
  rw [List.take_zero] at this
  unfold clrs
  rw [if_pos (by rfl : clearB [] = true)]
  exact this
theorem clrs_good {n : Nat} {x : List Int} (h : x ∈ clrs [] n) : rowsB n x = true ∧ clearB x = true := by
  unfold clrs at h
  rw [if_pos (by rfl : clearB [] = true)] at h
  exact cext_good n _ [] x (by rfl) (by rfl) h
def nthN : List Nat → Nat → Nat
  | [], _ => 0
  | a :: _, 0 => a
  | _ :: l, k + 1 => nthN l k
def castL (l : List Nat) : List Int := l.map fun x : Nat => (x : Int)
theorem nth_cast : ∀ (l : List Nat) (k : Nat), nth (castL l) k = nthN l k
  | [], k => by simp [castL, nth, nthN]
  | a :: l, 0 => rfl
  | a :: l, k + 1 => by
    show nth (_ :: castL l) (k + 1) = _
    rw [nth_conss]; exact nth_cast l k
/-- badR in natural numbers, one sum for each pair of columns. -/
def badN (pre : List Nat) (s : Nat) : Bool := pre.elem s || (List.range pre.length).any fun f => (List.range f).any fun i => Nat.beq (nthN pre (i + (pre.length - f)) + nthN pre f) (s + nthN pre i)
theorem last_cast (pre : List Nat) (s : Nat) : lastB (castL pre ++ [(s : Int)]) = (List.range pre.length).any fun f => (List.range f).any fun i => Nat.beq (nthN pre (i + (pre.length - f)) + nthN pre f) (s + nthN pre i) := by
  have hl : (castL pre ++ [(s : Int)]).length - 1 = pre.length := by simp [castL]
  have hn : ∀ k, k < pre.length → nth (castL pre ++ [(s : Int)]) k = nthN pre k := fun k hk => by
    rw [← nth_cast]; simp [nth, List.getElem?_append_left, castL, hk]
  have ht : nth (castL pre ++ [(s : Int)]) pre.length = s := by simp [nth, castL]
  unfold lastB
  rw [hl, Bool.eq_iff_iff]
  simp only [List.any_eq_true, List.mem_range]
  constructor
  · rintro ⟨f, hf, ⟨i, j⟩, hp, hs⟩
    have hm := prs_mem _ _ hp
    simp only at hm
    unfold sameStep at hs
    have hs := of_decide_eq_true hs
    unfold stp1 stp2 at hs
    simp only at hs
    rw [ht, hn f hf, hn i (by omega), hn j (by omega)] at hs
    refine ⟨f, hf, i, by omega, ?_⟩
    rw [Nat.beq_eq, show i + (pre.length - f) = j by omega]
    omega
  · rintro ⟨f, hf, i, hi, hs⟩
    rw [Nat.beq_eq] at hs
    refine ⟨f, hf, (i, i + (pre.length - f)), prs_has _ _ _ (by omega) (by omega), ?_⟩
    unfold sameStep
    refine decide_eq_true ?_
    unfold stp1 stp2
    simp only
    rw [ht, hn f hf, hn i (by omega), hn (i + (pre.length - f)) (by omega)]
    omega
theorem bad_cast (pre : List Nat) (s : Nat) : badR (castL pre) s = badN pre s := by
  unfold badR badN
  rw [last_cast]
  congr 1
  rw [Bool.eq_iff_iff]
  simp only [castL, List.mem_map, decide_eq_true_eq, List.elem_eq_mem]
  exact ⟨fun ⟨a, h, e⟩ => by obtain rfl : a = s := by omega
                             exact h, fun h => ⟨s, h, rfl⟩⟩
def cntF (d : Nat) : Nat → List Nat → Nat
  | 0, _ => 1
  | fuel + 1, pre => ((List.range d).map fun s => bif badN pre s then 0 else cntF d fuel (pre ++ [s])).sum
theorem cext_count (d : Nat) : ∀ (fuel : Nat) (pre : List Nat), (cext d fuel (castL pre)).length = cntF d fuel pre
  | 0, pre => rfl
  | fuel + 1, pre => by
    simp only [cext, cntF, List.length_flatMap]
    congr 1
    refine List.map_congr_left fun s _ => ?_
    rw [bad_cast]
    cases badN pre s with
    | true => rfl
    | false =>
      have := cext_count d fuel (pre ++ [s])
      rw [show castL (pre ++ [s]) = castL pre ++ [(s : Int)] by simp [castL]] at this
      exact this
theorem clrs_cnt (d : Nat) : (clrs [] d).length = cntF d d [] := by
  unfold clrs
  rw [if_pos (by rfl : clearB [] = true)]
  exact cext_count d d []
set_option maxRecDepth 100000 in
theorem cnt_all : cntF 1 1 [] = 1 ∧ cntF 2 2 [] = 2 ∧ cntF 3 3 [] = 4 ∧ cntF 4 4 [] = 12 ∧ cntF 5 5 [] = 40 ∧ cntF 6 6 [] = 116 ∧ cntF 7 7 [] = 200 := by decide +kernel
end Go.Proofs.Ytmljdhckcplcaaa
