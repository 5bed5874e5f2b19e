/- The number of all tables for two generators, reckoned fast. Nothing is claimed here. -/
import Derived.Test.YtikedhkibdeheaaNa
namespace Go.Proofs.Ytikedhkibdeheaa
open Go.RowKit
set_option linter.unusedVariables false

def nthN : List Nat → Nat → Nat
  | [], _ => 0
  | x :: _, 0 => x
  | _ :: l, k + 1 => nthN l k
def idxN : List Nat → Nat → Nat → Nat
  | [], _, k => k
  | x :: l, s, k => bif Nat.beq x s then k else idxN l s (k + 1)
def stF (c e : List Nat) (l s : Nat) : Nat :=
  match l with
  | 0 => nthN c s
  | 1 => idxN c s 0
  | 2 => nthN e s
  | _ => idxN e s 0
/-- n: how many sheets have been found, 0 .. n - 1 -/
def oneF (c e : List Nat) (at_ l n : Nat) : Option Nat :=
  let x := stF c e l at_
  bif Nat.blt x n then some n else bif Nat.beq x n then some (n + 1) else none
def rowF (c e : List Nat) (at_ n : Nat) : Option Nat :=
  match oneF c e at_ 0 n with
  | none => none
  | some n => match oneF c e at_ 1 n with
    | none => none
    | some n => match oneF c e at_ 2 n with
      | none => none
      | some n => oneF c e at_ 3 n
def allF' (c e : List Nat) : Nat → Nat → Nat → Option Nat
  | 0, _, n => some n
  | fuel + 1, at_, n => bif Nat.blt at_ n then match rowF c e at_ n with | none => none | some n' => allF' c e fuel (at_ + 1) n' else some n
def stdF (d : Nat) (c e : List Nat) : Bool := match allF' c e d 0 1 with | none => false | some n => Nat.beq n d
def extN (d : Nat) : Nat → List Nat → List (List Nat)
  | 0, pre => [pre]
  | fuel + 1, pre => (List.range d).flatMap fun s => if s ∈ pre then [] else extN d fuel (pre ++ [s])
def permsN (d : Nat) : List (List Nat) := extN d d []
def cntE (d : Nat) (c : List Nat) : List (List Nat) → Nat
  | [] => 0
  | e :: l => (bif stdF d c e then 1 else 0) + cntE d c l
def cntC (d : Nat) (P : List (List Nat)) : List (List Nat) → Nat
  | [] => 0
  | c :: l => cntE d c P + cntC d P l

def up (l : List Nat) : List Int := l.map fun n : Nat => (n : Int)
theorem up_perms : perms 1 = (permsN 1).map up ∧ perms 2 = (permsN 2).map up ∧ perms 3 = (permsN 3).map up ∧ perms 4 = (permsN 4).map up ∧ perms 5 = (permsN 5).map up := by
  refine ⟨?_, ?_, ?_, ?_, ?_⟩ <;> decide +kernel
theorem up_perms_all (d : Nat) (d1 : 1 ≤ d) (d5 : d ≤ 5) : perms d = (permsN d).map up := by
  obtain ⟨h1, h2, h3, h4, h5⟩ := up_perms
  obtain rfl | rfl | rfl | rfl | rfl : d = 1 ∨ d = 2 ∨ d = 3 ∨ d = 4 ∨ d = 5 := by omega
  · exact h1
  · exact h2
  · exact h3
  · exact h4
  · exact h5
theorem nthN_eq : ∀ (l : List Nat) (k : Nat), k < l.length → nth (up l) k = nthN l k
  | [], k, h => by simp at h
  | x :: l, 0, _ => rfl
  | x :: l, k + 1, h => by
    have := nthN_eq l k (by simpa using h)
    show nth (up (x :: l)) (k + 1) = nthN l k
    rw [← this]; rfl
theorem idxN_eq : ∀ (l : List Nat) (s k j : Nat), j < l.length → nthN l j = s → (∀ i, i < j → nthN l i ≠ s) → idxN l s k = k + j
  | [], s, k, j, h, _, _ => by simp at h
  | x :: l, s, k, 0, _, h, _ => by
    have hx : x = s := h
    simp [idxN, hx]
  | x :: l, s, k, j + 1, h, h1, h2 => by
    have hx : x ≠ s := h2 0 (by omega)
    have := idxN_eq l s (k + 1) j (by simpa using h) h1 (fun i hi => h2 (i + 1) (by omega))
    simp only [idxN]
    rw [show Nat.beq x s = false from by rw [Bool.eq_false_iff]; intro hb; exact hx (Nat.eq_of_beq_eq_true hb)]
    show idxN l s (k + 1) = k + (j + 1)
    rw [this]; omega
def isR (L : List Fd) (n : Nat) : Prop := L.length = n ∧ ∀ k, k < n → sh L k = k
def bad (L : List Fd) : Prop := ∃ k, k < L.length ∧ sh L k ≠ k
theorem isR_mem {L : List Fd} {n : Nat} (h : isR L n) (y : Nat) : (y : Int) ∈ shs L ↔ y < n := by
  constructor
  · intro hm
    obtain ⟨k, hk, e⟩ := List.mem_iff_getElem.1 hm
    rw [shs_length, h.1] at hk
    have : sh L k = (shs L)[k]'(by rw [shs_length, h.1]; exact hk) := by
      simp only [sh, shs, List.getElem_map, List.getElem?_eq_getElem (show k < L.length by rw [h.1]; exact hk), Option.getD_some]
    rw [← this, h.2 k hk] at e
    omega
  · intro hy
    have := sh_mem L y (by rw [h.1]; exact hy)
    rwa [h.2 y hy] at this
theorem sh_last (L : List Fd) (x : Fd) : sh (L ++ [x]) L.length = x.1 := by simp [sh]
theorem bad_numI {L : List Fd} (h : bad L) (σ : Int → Int → Int) (at_ m : Nat) : bad (numI σ at_ L m) := by
  obtain ⟨k, hk, hn⟩ := h
  unfold numI
  split
  · exact ⟨k, hk, hn⟩
  · exact ⟨k, by simp; omega, by rw [sh_app _ _ _ hk]; exact hn⟩
theorem bad_foldl (σ : Int → Int → Int) (at_ : Nat) : ∀ (l : List Nat) (L : List Fd), bad L → bad (l.foldl (numI σ at_) L)
  | [], L, h => h
  | m :: l, L, h => bad_foldl σ at_ l _ (bad_numI h σ at_ m)
theorem bad_numR {L : List Fd} (h : bad L) (σ : Int → Int → Int) (at_ m : Nat) : bad (numR σ at_ L m) := bad_foldl σ at_ _ L h
theorem bad_numL (σ : Int → Int → Int) (g : Nat) (s : Int) (k : Nat) (h : bad (numL σ g s k)) : ∀ j, k ≤ j → bad (numL σ g s j) := by
  intro j
  induction j with
  | zero => intro hj; obtain rfl : k = 0 := by omega
            exact h
  | succ j ih =>
    intro hj
    by_cases e : k = j + 1
    · subst e; exact h
    · have := ih (by omega)
      rw [numL_succ]
      split
      · exact bad_numR this _ _ _
      · exact this
/-- The letters send as the two columns say. -/
def says (σ : Int → Int → Int) (d : Nat) (c e : List Nat) : Prop := ∀ s m : Nat, s < d → m < 4 → σ s m = stF c e m s ∧ stF c e m s < d
theorem one_step {σ : Int → Int → Int} {d : Nat} {c e : List Nat} (hσ : says σ d c e) {L : List Fd} {n : Nat} (h : isR L n) (hn : n ≤ d) (at_ m : Nat) (ha : at_ < n) (hm : m < 4) :
    match oneF c e at_ m n with | none => bad (numI σ at_ L m) | some n' => isR (numI σ at_ L m) n' ∧ n ≤ n' ∧ n' ≤ d := by
  obtain ⟨h1, h2⟩ := hσ at_ m (by omega) hm
  have hsa : sh L at_ = at_ := h.2 at_ ha
  unfold oneF numI
  rw [hsa, h1]
  generalize stF c e m at_ = y at *
  have hmem := isR_mem h y
  by_cases hy : y < n
  · rw [if_pos (hmem.2 hy)]
    simp only [show Nat.blt y n = true from by simpa [Nat.blt_eq] using hy, cond_true]
    exact ⟨h, Nat.le_refl _, hn⟩
  · rw [if_neg (fun hh => hy (hmem.1 hh))]
    simp only [show Nat.blt y n = false from by rw [Bool.eq_false_iff]; intro hb; exact hy (by simpa [Nat.blt_eq] using hb), cond_false]
    by_cases hyn : y = n
    · subst hyn
      simp only [Nat.beq_refl, cond_true]
      refine ⟨⟨by simp [h.1], fun k hk => ?_⟩, by omega, by omega⟩
      by_cases hk2 : k < y
      · rw [sh_app _ _ _ (by rw [h.1]; exact hk2)]; exact h.2 k hk2
      · obtain rfl : k = y := by omega
        have := sh_last L ((k : Int), (at_ : Int), (m : Int))
        rw [h.1] at this; exact this
    · simp only [show Nat.beq y n = false from by rw [Bool.eq_false_iff]; intro hb; exact hyn (Nat.eq_of_beq_eq_true hb), cond_false]
      refine ⟨n, by simp [h.1], ?_⟩
      have := sh_last L ((y : Int), (at_ : Int), (m : Int))
      rw [h.1] at this
      rw [this]
      show (y : Int) ≠ n
      omega
theorem row_step {σ : Int → Int → Int} {d : Nat} {c e : List Nat} (hσ : says σ d c e) {L : List Fd} {n : Nat} (h : isR L n) (hn : n ≤ d) (at_ : Nat) (ha : at_ < n) :
    match rowF c e at_ n with | none => bad (numR σ at_ L 4) | some n' => isR (numR σ at_ L 4) n' ∧ n ≤ n' ∧ n' ≤ d := by
  have e4 : numR σ at_ L 4 = numI σ at_ (numI σ at_ (numI σ at_ (numI σ at_ L 0) 1) 2) 3 := rfl
  rw [e4]
  unfold rowF
  have s0 := one_step hσ h hn at_ 0 ha (by omega)
  cases o0 : oneF c e at_ 0 n with
  | none => rw [o0] at s0; exact bad_numI (bad_numI (bad_numI s0 _ _ _) _ _ _) _ _ _
  | some n0 =>
    rw [o0] at s0
    obtain ⟨r0, l0, m0⟩ := s0
    have s1 := one_step hσ r0 m0 at_ 1 (by omega) (by omega)
    simp only
    cases o1 : oneF c e at_ 1 n0 with
    | none => rw [o1] at s1; exact bad_numI (bad_numI s1 _ _ _) _ _ _
    | some n1 =>
      rw [o1] at s1
      obtain ⟨r1, l1, m1⟩ := s1
      have s2 := one_step hσ r1 m1 at_ 2 (by omega) (by omega)
      simp only
      cases o2 : oneF c e at_ 2 n1 with
      | none => rw [o2] at s2; exact bad_numI s2 _ _ _
      | some n2 =>
        rw [o2] at s2
        obtain ⟨r2, l2, m2⟩ := s2
        have s3 := one_step hσ r2 m2 at_ 3 (by omega) (by omega)
        simp only
        cases o3 : oneF c e at_ 3 n2 with
        | none => rw [o3] at s3; exact s3
        | some n3 =>
          rw [o3] at s3
          obtain ⟨r3, l3, m3⟩ := s3
          exact ⟨r3, by omega, m3⟩
theorem all_step {σ : Int → Int → Int} {d : Nat} {c e : List Nat} (hσ : says σ d c e) : ∀ (fuel at_ n : Nat), isR (numL σ 4 0 at_) n → n ≤ d →
    match allF' c e fuel at_ n with | none => bad (numL σ 4 0 (at_ + fuel)) | some n' => isR (numL σ 4 0 (at_ + fuel)) n' ∧ n' ≤ d
  | 0, at_, n, h, hn => ⟨h, hn⟩
  | fuel + 1, at_, n, h, hn => by
    unfold allF'
    by_cases ha : at_ < n
    · simp only [show Nat.blt at_ n = true from by simpa [Nat.blt_eq] using ha, cond_true]
      have s := row_step hσ h hn at_ ha
      have en : numL σ 4 0 (at_ + 1) = numR σ at_ (numL σ 4 0 at_) 4 := by rw [numL_succ, if_pos (by rw [h.1]; exact ha)]
      rw [← en] at s
      cases o : rowF c e at_ n with
      | none => rw [o] at s; exact bad_numL σ 4 0 _ s _ (by omega)
      | some n' =>
        rw [o] at s
        have := all_step hσ fuel (at_ + 1) n' s.1 s.2.2
        rw [show at_ + 1 + fuel = at_ + (fuel + 1) by omega] at this
        exact this
    · simp only [show Nat.blt at_ n = false from by rw [Bool.eq_false_iff]; intro hb; exact ha (by simpa [Nat.blt_eq] using hb), cond_false]
      rw [numL_stop σ 4 0 at_ (by rw [h.1]; omega) (at_ + (fuel + 1)) (by omega)]
      exact ⟨h, hn⟩
theorem std_fast (W : List Int) (d : Nat) (d1 : 1 ≤ d) (d5 : d ≤ 5) (c e : List Nat) (hσ : says (sg W) d c e) (h0 : nth W 0 = 2) (h1 : nth W 1 = d) : stdB W = stdF d c e := by
  have hstart : isR (numL (sg W) 4 0 0) 1 := by
    refine ⟨rfl, ?_⟩
    intro k hk
    have hk0 : k = 0 := Nat.lt_one_iff.1 hk
    subst hk0; rfl
  have hs := all_step hσ d 0 1 hstart d1
  rw [Nat.zero_add] at hs
  unfold stdB stdF
  rw [h0, h1, show ((2 * (2 : Int)).toNat) = 4 from rfl]
  cases o : allF' c e d 0 1 with
  | none =>
    rw [o] at hs
    have hS : numS (sg W) 4 0 = numL (sg W) 4 0 25 := rfl
    rw [hS]
    obtain ⟨k, hk, hn⟩ := bad_numL (sg W) 4 0 d hs 25 (by omega)
    have : ((List.range (numL (sg W) 4 0 25).length).all fun k : Nat => decide (sh (numL (sg W) 4 0 25) k = k)) = false := List.all_eq_false.2 ⟨k, by simpa using hk, by simpa using hn⟩
    rw [this]; rfl
  | some n =>
    rw [o] at hs
    obtain ⟨hr, hnd⟩ := hs
    have he : numS (sg W) 4 0 = numL (sg W) 4 0 d := numS_of _ _ _ d (by omega) (by rw [hr.1]; exact hnd)
    rw [he]
    have : ((List.range (numL (sg W) 4 0 d).length).all fun k : Nat => decide (sh (numL (sg W) 4 0 d) k = k)) = true := by
      rw [List.all_eq_true]; intro k hk
      rw [decide_eq_true_iff]; exact hr.2 k (by rw [← hr.1]; simpa using hk)
    rw [this, hr.1, Bool.true_and]
    rw [Bool.eq_iff_iff, decide_eq_true_iff]
    show ((n : Int) = d) ↔ Nat.beq n d = true
    exact ⟨fun h => by have e : n = d := by omega
                       rw [e]; exact Nat.beq_refl d, fun h => by have := Nat.eq_of_beq_eq_true h; omega⟩
theorem perm_says (d : Nat) (d1 : 1 ≤ d) (d5 : d ≤ 5) (c e : List Nat) (hc : up c ∈ perms d) (he : up e ∈ perms d) :
    stdB (layS (layS (w0 2 d) 0 (up c)) 1 (up e)) = stdF d c e := by
  have hp : ∀ y ∈ [up c, up e], y ∈ perms d := by
    intro y hy; simp at hy
    rcases hy with rfl | rfl
    · exact hc
    · exact he
  obtain ⟨hB, hs⟩ := tab_wind d d1 d5 [up c, up e] (.inr rfl) hp
  obtain ⟨c1, c2, c3⟩ := perms_ok d _ hc
  obtain ⟨e1, e2, e3⟩ := perms_ok d _ he
  have hcl : c.length = d := by simpa [up] using c1
  have hel : e.length = d := by simpa [up] using e1
  have hW : windW [up c, up e] = layS (layS (w0 2 d) 0 (up c)) 1 (up e) := by
    rw [windW, if_pos hB]
    show windK [up c, up e] 2 = _
    rw [windK_succ, windK_succ]
    simp [windK, c1]
  rw [← hW]
  have key : ∀ (k : Nat) (l : List Nat), [up c, up e][k]? = some (up l) → l.length = d → (up l).all (hasB d) = true → (up l).Nodup → ∀ s, s < d → nth (windW [up c, up e]) (2 + 10 * k + s) = nthN l s ∧ nthN l s < d ∧ nth (windW [up c, up e]) (2 + 10 * k + 5 + s) = idxN l s 0 ∧ idxN l s 0 < d := by
    intro k l hk hl ha hn s hsd
    have hul : (up l).length = d := by simpa [up] using hl
    have w1 := windW_at _ hB k (up l) hk s (by omega)
    have hin := (hasB_iff _ _).1 (List.all_eq_true.1 ha _ (nth_mem (up l) s (by omega)))
    rw [nthN_eq l s (by omega)] at w1 hin
    obtain ⟨j, hj, hje⟩ := List.mem_iff_getElem.1 (col_all d (up l) hul ha hn s hsd)
    have hje' : nth (up l) j = s := by simpa [nth, List.getElem?_eq_getElem hj] using hje
    have hjd : j < d := by omega
    have hjN : nthN l j = s := by have := nthN_eq l j (by omega); omega
    have w2 := (windW_at _ hB k (up l) hk j (by omega)).2
    rw [hje', Int.toNat_natCast] at w2
    have hidx : idxN l s 0 = 0 + j := idxN_eq l s 0 j (by omega) hjN (fun i hi he => by
      have e1 := nthN_eq l i (by omega)
      have := nth_inj (up l) hn i j (by omega) hj (by rw [hje']; omega)
      omega)
    exact ⟨w1.1, by omega, by rw [w2, hidx]; simp, by omega⟩
  have kc := key 0 c rfl hcl c2 c3
  have ke := key 1 e rfl hel e2 e3
  refine std_fast _ d d1 d5 c e (fun s m hs' hm => ?_) (windW_nth0 _ hB) (by rw [windW_nth1 _ hB, hs])
  obtain ⟨a1, a2, a3, a4⟩ := kc s hs'
  obtain ⟨b1, b2, b3, b4⟩ := ke s hs'
  have hsn : ((s : Int)).toNat = s := by omega
  unfold sg
  obtain rfl | rfl | rfl | rfl : m = 0 ∨ m = 1 ∨ m = 2 ∨ m = 3 := by omega
  · exact ⟨by rw [hsn]; exact a1, a2⟩
  · exact ⟨by rw [hsn]; exact a3, a4⟩
  · exact ⟨by rw [hsn]; exact b1, b2⟩
  · exact ⟨by rw [hsn]; exact b3, b4⟩
theorem cntE_eq (d : Nat) (d1 : 1 ≤ d) (d5 : d ≤ 5) (c : List Nat) (hc : up c ∈ perms d) : ∀ (l : List (List Nat)), (∀ e ∈ l, up e ∈ perms d) → ((l.map up).flatMap fun e => fl d [] 0 (layS (layS (w0 2 d) 0 (up c)) 1 e) 2).length = cntE d c l
  | [], _ => rfl
  | e :: l, h => by
    have ih := cntE_eq d d1 d5 c hc l (fun x hx => h x (by simp [hx]))
    have hs := perm_says d d1 d5 c e hc (h e (by simp))
    rw [List.map_cons, List.flatMap_cons, List.length_append, ih]
    show (if (stdB _ && keepsB _ []) = true then [_] else []).length + _ = _
    rw [show ∀ W, keepsB W [] = true from fun _ => rfl, Bool.and_true, hs]
    show _ = (bif stdF d c e then 1 else 0) + cntE d c l
    cases stdF d c e <;> rfl
theorem cntC_eq (d : Nat) (d1 : 1 ≤ d) (d5 : d ≤ 5) (P : List (List Nat)) (hP : ∀ e ∈ P, up e ∈ perms d) : ∀ (l : List (List Nat)), (∀ e ∈ l, up e ∈ perms d) → ((l.map up).flatMap fun c => (P.map up).flatMap fun e => fl d [] 0 (layS (layS (w0 2 d) 0 c) 1 e) 2).length = cntC d P l
  | [], _ => rfl
  | c :: l, h => by
    have ih := cntC_eq d d1 d5 P hP l (fun x hx => h x (by simp [hx]))
    rw [List.map_cons, List.flatMap_cons, List.length_append, ih, cntE_eq d d1 d5 c (h c (by simp)) P hP]
    rfl
theorem wins_fast (d : Nat) (d1 : 1 ≤ d) (d5 : d ≤ 5) : (wins 2 d []).length = cntC d (permsN d) (permsN d) := by
  have hp := up_perms_all d d1 d5
  have hmem : ∀ e ∈ permsN d, up e ∈ perms d := fun e he => by rw [hp]; exact List.mem_map.2 ⟨e, he, rfl⟩
  rw [← cntC_eq d d1 d5 (permsN d) hmem (permsN d) hmem, ← hp]
  rfl
set_option maxRecDepth 100000 in
theorem free_numbers : cntC 1 (permsN 1) (permsN 1) = 1 ∧ cntC 2 (permsN 2) (permsN 2) = 3 ∧ cntC 3 (permsN 3) (permsN 3) = 13 ∧ cntC 4 (permsN 4) (permsN 4) = 71 ∧ cntC 5 (permsN 5) (permsN 5) = 461 := by
  refine ⟨?_, ?_, ?_, ?_, ?_⟩ <;> decide +kernel
def freeN : Nat → Nat | 1 => 1 | 2 => 3 | 3 => 13 | 4 => 71 | _ => 461
theorem free_two (d : Nat) (d1 : 1 ≤ d) (d5 : d ≤ 5) : (wins 2 d []).length = freeN d := by
  rw [wins_fast d d1 d5]
  obtain ⟨h1, h2, h3, h4, h5⟩ := free_numbers
  obtain rfl | rfl | rfl | rfl | rfl : d = 1 ∨ d = 2 ∨ d = 3 ∨ d = 4 ∨ d = 5 := by omega
  · exact h1
  · exact h2
  · exact h3
  · exact h4
  · exact h5
end Go.Proofs.Ytikedhkibdeheaa
