/- The plain words of the numbering of sheets. Nothing is claimed here. The plain words of the permutations. Nothing is claimed here. The plain words of the search for windings. Nothing is claimed here. -/
import Derived.Test.YtikedhkibdeheaaCa
namespace Go.Proofs.Ytikedhkibdeheaa
section
open Go.RowKit
/-- A sheet that was found: its number, from where, by which letter. -/
abbrev Fd := Int × Int × Int
def shs (L : List Fd) : List Int := L.map (·.1)
def sh (L : List Fd) (k : Nat) : Int := (L[k]?.getD (0, 0, 0)).1
def fr (L : List Fd) (k : Nat) : Int := (L[k]?.getD (0, 0, 0)).2.1
def lt (L : List Fd) (k : Nat) : Int := (L[k]?.getD (0, 0, 0)).2.2
def fc (L : List Fd) : List Value := L.flatMap fun x => [.int .i64 x.1, .int .i64 x.2.1, .int .i64 x.2.2]
theorem fc_snoc (L : List Fd) (x : Fd) : fc (L ++ [x]) = fc L ++ [.int .i64 x.1, .int .i64 x.2.1, .int .i64 x.2.2] := by simp [fc]
theorem fc_length (L : List Fd) : (fc L).length = L.length * 3 := by
  induction L with
  | nil => rfl
  | cons x L ih => simp [fc] at ih ⊢; omega
theorem fc_at (L : List Fd) (k : Nat) (h : k < L.length) : (fc L)[k * 3]? = some (.int .i64 (sh L k)) ∧ (fc L)[k * 3 + 1]? = some (.int .i64 (fr L k)) ∧ (fc L)[k * 3 + 2]? = some (.int .i64 (lt L k)) := by
  induction L generalizing k with
  | nil => simp at h
  | cons x L ih =>
    cases k with
    | zero => exact ⟨rfl, rfl, rfl⟩
    | succ k =>
      have := ih k (by simpa using h)
      have e : fc (x :: L) = .int .i64 x.1 :: .int .i64 x.2.1 :: .int .i64 x.2.2 :: fc L := rfl
      rw [e, show (k + 1) * 3 = k * 3 + 1 + 1 + 1 from by omega, show k * 3 + 1 + 1 + 1 + 1 = k * 3 + 1 + 1 + 1 + 1 from rfl, show k * 3 + 1 + 1 + 1 + 2 = k * 3 + 2 + 1 + 1 + 1 from by omega]
      simp only [List.getElem?_cons_succ]
      exact this
theorem sh_app (L : List Fd) (x : Fd) (k : Nat) (h : k < L.length) : sh (L ++ [x]) k = sh L k := by simp [sh, List.getElem?_append_left h]
theorem sh_mem (L : List Fd) (k : Nat) (h : k < L.length) : sh L k ∈ shs L := by
  simp only [sh, shs, List.getElem?_eq_getElem h, Option.getD_some]
  exact List.mem_map.2 ⟨_, List.getElem_mem h, rfl⟩
theorem shs_length (L : List Fd) : (shs L).length = L.length := by simp [shs]

/-- One letter of one sheet; the letters of a sheet; the sheets. -/
def numI (σ : Int → Int → Int) (at_ : Nat) (L : List Fd) (m : Nat) : List Fd :=
  if σ (sh L at_) m ∈ shs L then L else L ++ [(σ (sh L at_) m, (at_ : Int), (m : Int))]
def numR (σ : Int → Int → Int) (at_ : Nat) (L : List Fd) (m : Nat) : List Fd := (List.range m).foldl (numI σ at_) L
def numL (σ : Int → Int → Int) (g : Nat) (s : Int) (k : Nat) : List Fd :=
  (List.range k).foldl (fun L at_ => if at_ < L.length then numR σ at_ L g else L) [(s, 0, 0)]
theorem numR_succ (σ : Int → Int → Int) (at_ : Nat) (L : List Fd) (m : Nat) : numR σ at_ L (m + 1) = numI σ at_ (numR σ at_ L m) m := by simp [numR, List.range_succ]
theorem numL_succ (σ : Int → Int → Int) (g : Nat) (s : Int) (k : Nat) :
    numL σ g s (k + 1) = if k < (numL σ g s k).length then numR σ k (numL σ g s k) g else numL σ g s k := by
  unfold numL; rw [List.range_succ, List.foldl_append]; rfl
/-- The sheets found are different and lie below n. -/
def numOk (n : Int) (L : List Fd) : Prop := 0 < L.length ∧ (shs L).Nodup ∧ ∀ x ∈ shs L, 0 ≤ x ∧ x < n
theorem numI_ok {n : Int} {σ : Int → Int → Int} {at_ : Nat} {L : List Fd} {m : Nat} (h : numOk n L) (ha : at_ < L.length) (hσ : 0 ≤ σ (sh L at_) m ∧ σ (sh L at_) m < n) :
    numOk n (numI σ at_ L m) ∧ at_ < (numI σ at_ L m).length := by
  unfold numI
  by_cases hin : σ (sh L at_) m ∈ shs L
  · rw [if_pos hin]; exact ⟨h, ha⟩
  · rw [if_neg hin]
    refine ⟨⟨by simp, ?_, ?_⟩, by simp; omega⟩
    · have : shs (L ++ [(σ (sh L at_) m, (at_ : Int), (m : Int))]) = shs L ++ [σ (sh L at_) m] := by simp [shs]
      rw [this, List.nodup_append]
      exact ⟨h.2.1, by simp, fun a ha' b hb => by simp at hb; subst hb; exact fun e => hin (e ▸ ha')⟩
    · intro x hx
      simp [shs] at hx
      rcases hx with hx | hx
      · exact h.2.2 x (by simpa [shs] using hx)
      · subst hx; exact hσ
theorem numR_ok {n : Int} {σ : Int → Int → Int} {at_ g : Nat} {L : List Fd} (hσ : ∀ x m : Int, 0 ≤ x → x < n → 0 ≤ m → m < g → 0 ≤ σ x m ∧ σ x m < n) (h : numOk n L) (ha : at_ < L.length) :
    ∀ m, m ≤ g → numOk n (numR σ at_ L m) ∧ at_ < (numR σ at_ L m).length := by
  intro m
  induction m with
  | zero => intro _; exact ⟨h, ha⟩
  | succ m ih =>
    intro hm
    have := ih (by omega)
    rw [numR_succ]
    have hx := this.1.2.2 _ (sh_mem _ at_ this.2)
    exact numI_ok this.1 this.2 (hσ _ _ hx.1 hx.2 (by omega) (by omega))
theorem nodup_below : ∀ (n : Nat) (l : List Int), l.Nodup → (∀ x ∈ l, 0 ≤ x ∧ x < n) → l.length ≤ n := by
  intro n
  induction n with
  | zero =>
    intro l _ hb
    cases l with
    | nil => simp
    | cons x l => have := hb x (by simp); omega
  | succ n ih =>
    intro l hd hb
    by_cases hm : (n : Int) ∈ l
    · have h1 := ih (l.erase (n : Int)) (hd.erase _) (fun x hx => by
        have h2 := (List.Nodup.mem_erase_iff hd).1 hx
        have h3 := hb x h2.2
        have := h2.1
        omega)
      rw [List.length_erase_of_mem hm] at h1
      omega
    · have := ih l hd (fun x hx => by
        have := hb x hx
        have : x ≠ (n : Int) := fun e => hm (e ▸ hx)
        omega)
      omega
theorem numOk_length {n : Nat} {L : List Fd} (h : numOk n L) : L.length ≤ n := by
  have := nodup_below n (shs L) h.2.1 h.2.2
  rwa [shs_length] at this
theorem numL_ok {n : Int} {σ : Int → Int → Int} {g : Nat} {s : Int} (hσ : ∀ x m : Int, 0 ≤ x → x < n → 0 ≤ m → m < g → 0 ≤ σ x m ∧ σ x m < n) (hs : 0 ≤ s ∧ s < n) (k : Nat) : numOk n (numL σ g s k) := by
  induction k with
  | zero => exact ⟨by simp [numL], by simp [numL, shs], by intro x hx; simp [numL, shs] at hx; subst hx; exact hs⟩
  | succ k ih =>
    rw [numL_succ]
    by_cases hk : k < (numL σ g s k).length
    · rw [if_pos hk]; exact (numR_ok hσ ih hk g (Nat.le_refl _)).1
    · rw [if_neg hk]; exact ih
theorem numL_stop (σ : Int → Int → Int) (g : Nat) (s : Int) (k : Nat) (hk : (numL σ g s k).length ≤ k) : ∀ j, k ≤ j → numL σ g s j = numL σ g s k := by
  intro j
  induction j with
  | zero => intro h; obtain rfl : k = 0 := by omega
            rfl
  | succ j ih =>
    intro h
    by_cases e : k = j + 1
    · rw [e]
    · have h1 := ih (by omega)
      rw [numL_succ, h1, if_neg (by omega)]
/-- All sheets that arise from s: n is a bound of them. -/
def numS (σ : Int → Int → Int) (g : Nat) (s : Int) : List Fd := numL σ g s 25
theorem numS_of (σ : Int → Int → Int) (g : Nat) (s : Int) (k : Nat) (h25 : k ≤ 25) (hk : (numL σ g s k).length ≤ k) : numS σ g s = numL σ g s k := numL_stop σ g s k hk 25 h25
/-- Where a letter sends a sheet, by numbers. -/
def sg (W : List Int) (s l : Int) : Int := nth W (2 + l.toNat * 5 + s.toNat)
theorem shs_snoc (L : List Fd) (x : Fd) : shs (L ++ [x]) = shs L ++ [x.1] := by simp [shs]
theorem numI_in {σ : Int → Int → Int} {k m : Nat} {L L' : List Fd} (h : L' = numR σ k L m) (hin : σ (sh L' k) m ∈ shs L') : numR σ k L (m + 1) = L' := by
  rw [numR_succ, ← h, numI, if_pos hin]
theorem numI_new {σ : Int → Int → Int} {k m : Nat} {L L' : List Fd} (h : L' = numR σ k L m) (hin : ¬ σ (sh L' k) m ∈ shs L') : numR σ k L (m + 1) = L' ++ [(σ (sh L' k) m, (k : Int), (m : Int))] := by
  rw [numR_succ, ← h, numI, if_neg hin]
/-- A standard winding. -/
def stdB (W : List Int) : Bool := ((List.range (numS (sg W) (2 * nth W 0).toNat 0).length).all fun k : Nat => decide (sh (numS (sg W) (2 * nth W 0).toNat 0) k = k)) && decide (((numS (sg W) (2 * nth W 0).toNat 0).length : Int) = nth W 1)
theorem stdB_no (W : List Int) (k : Nat) (hk : k < (numS (sg W) (2 * nth W 0).toNat 0).length) (h : sh (numS (sg W) (2 * nth W 0).toNat 0) k ≠ k) : stdB W = false := by
  have : ((List.range (numS (sg W) (2 * nth W 0).toNat 0).length).all fun k : Nat => decide (sh (numS (sg W) (2 * nth W 0).toNat 0) k = k)) = false :=
    List.all_eq_false.2 ⟨k, by simpa using hk, by simpa using h⟩
  unfold stdB; rw [this]; rfl
theorem numS_ok (W : List Int) (hW : wok W) (g : Int) (hg : g = 1 ∨ g = 2) (s : Int) (hs : 0 ≤ s ∧ s < 5) : numOk (5 : Nat) (numS (sg W) (2 * g).toNat s) :=
  numL_ok (fun x m h1 h2 h3 h4 => hW.2 _ (by omega) (by omega)) ⟨hs.1, by omega⟩ 25
end
section
open Go.RowKit
/-- All ways to go on from pre by fuel more sheets below d, in ascending order; those whose next sheet lies below s. -/
def ext (d : Nat) : Nat → List Int → List (List Int)
  | 0, pre => [pre]
  | fuel + 1, pre => (List.range d).flatMap fun s : Nat => if (s : Int) ∈ pre then [] else ext d fuel (pre ++ [(s : Int)])
def extP (d fuel : Nat) (pre : List Int) (s : Nat) : List (List Int) := (List.range s).flatMap fun s : Nat => if (s : Int) ∈ pre then [] else ext d fuel (pre ++ [(s : Int)])
theorem ext_succ (d fuel : Nat) (pre : List Int) : ext d (fuel + 1) pre = extP d fuel pre d := rfl
theorem extP_in (d fuel : Nat) (pre : List Int) (s : Nat) (h : (s : Int) ∈ pre) : extP d fuel pre (s + 1) = extP d fuel pre s := by simp [extP, List.range_succ, h]
theorem extP_new (d fuel : Nat) (pre : List Int) (s : Nat) (h : ¬ (s : Int) ∈ pre) : extP d fuel pre (s + 1) = extP d fuel pre s ++ ext d fuel (pre ++ [(s : Int)]) := by simp [extP, List.range_succ, h]
theorem range_split (s d : Nat) (h : s ≤ d) : List.range d = List.range s ++ (List.range (d - s)).map (s + ·) := by
  have := List.range_add (n := s) (m := d - s)
  rwa [show s + (d - s) = d from by omega] at this
theorem extP_prefix (d fuel : Nat) (pre : List Int) (s s' : Nat) (h : s ≤ s') : ∃ t, extP d fuel pre s' = extP d fuel pre s ++ t :=
  ⟨_, by unfold extP; rw [range_split s s' h, List.flatMap_append]⟩
/-- The list ys lies in xs from place k on. -/
def Lies {α : Type} (xs : List α) (k : Nat) (ys : List α) : Prop := ∀ i x, ys[i]? = some x → xs[k + i]? = some x
theorem Lies.part {d fuel : Nat} {pre : List Int} {xs : List (List Int)} {k s : Nat} (h : Lies xs k (extP d fuel pre d)) (hs : s < d) (hn : ¬ (s : Int) ∈ pre) : Lies xs (k + (extP d fuel pre s).length) (ext d fuel (pre ++ [(s : Int)])) := by
  intro i x hx
  obtain ⟨t, ht⟩ := extP_prefix d fuel pre (s + 1) d (by omega)
  rw [extP_new _ _ _ _ hn] at ht
  have h1 := h ((extP d fuel pre s).length + i) x (by
    have hi := (List.getElem?_eq_some_iff.1 hx).1
    rw [ht, List.append_assoc, List.getElem?_append_right (by omega), show (extP d fuel pre s).length + i - (extP d fuel pre s).length = i from by omega, List.getElem?_append_left hi]
    exact hx)
  rwa [← Nat.add_assoc] at h1
def perms (d : Nat) : List (List Int) := ext d d []
/-- Each of them is a list of d different sheets below d. -/
theorem ext_ok (d : Nat) : ∀ (fuel : Nat) (pre : List Int), pre.length + fuel = d → pre.all (hasB d) = true → pre.Nodup → ∀ p ∈ ext d fuel pre, p.length = d ∧ p.all (hasB d) = true ∧ p.Nodup := by
  intro fuel
  induction fuel with
  | zero => intro pre h1 h2 h3 p hp; simp [ext] at hp; subst hp; exact ⟨by omega, h2, h3⟩
  | succ fuel ih =>
    intro pre h1 h2 h3 p hp
    rw [ext_succ] at hp
    simp only [extP, List.mem_flatMap, List.mem_range] at hp
    obtain ⟨s, hs, hp⟩ := hp
    by_cases hin : (s : Int) ∈ pre
    · simp [hin] at hp
    · rw [if_neg hin] at hp
      refine ih (pre ++ [(s : Int)]) (by simp; omega) ?_ ?_ p hp
      · rw [List.all_append, h2]; simp [hasB]; omega
      · rw [List.nodup_append]; exact ⟨h3, by simp, fun a ha b hb => by simp at hb; subst hb; exact fun e => hin (e ▸ ha)⟩
theorem perms_ok (d : Nat) (p : List Int) (hp : p ∈ perms d) : p.length = d ∧ p.all (hasB d) = true ∧ p.Nodup := ext_ok d d [] (by simp) rfl (by simp) p hp
/-- Taking a sheet back. -/
theorem tk_unset (pre : List Int) (n s : Nat) (h : ¬ (s : Int) ∈ pre) : (tk (pre ++ [(s : Int)]) n).setIfInBounds s (.bool false) = tk pre n := by
  apply Array.ext_getElem?
  intro i
  rw [Array.getElem?_setIfInBounds]
  by_cases hi : i < n
  · rw [tk_at _ _ _ hi, tk_at _ _ _ hi]
    by_cases hx : s = i
    · subst hx; simp [h, tk, hi]
    · have : ¬ (i : Int) = s := by omega
      simp [hx, this]
  · have h1 : (tk pre n)[i]? = none := by simp [tk]; omega
    have h2 : (tk (pre ++ [(s : Int)]) n)[i]? = none := by simp [tk]; omega
    rw [h1, h2]
    split
    · simp [tk]; omega
    · rfl
theorem set_take (l : List Int) (k : Nat) (pre : List Int) (x : Int) (hk : k < l.length) (h : l.take k = pre) : (l.set k x).take (k + 1) = pre ++ [x] := by
  rw [List.take_succ_eq_append_getElem (by simpa using hk)]
  simp [List.take_set_of_le, h]
end
section
open Go.RowKit
set_option linter.unusedVariables false
/-- All windings that come of laying all permutations for fuel generators from gi on. -/
def fl (d : Nat) (rules : List ByteArray) : Nat → List Int → Nat → List (List Int)
  | 0, W, _ => if (stdB W && keepsB W rules) = true then [W] else []
  | fuel + 1, W, gi => (perms d).flatMap fun c => fl d rules fuel (layS W gi c) (gi + 1)
def flP (d : Nat) (rules : List ByteArray) (fuel : Nat) (W : List Int) (gi j : Nat) : List (List Int) := ((perms d).take j).flatMap fun c => fl d rules fuel (layS W gi c) (gi + 1)
theorem fl_succ (d : Nat) (rules : List ByteArray) (fuel : Nat) (W : List Int) (gi : Nat) : fl d rules (fuel + 1) W gi = flP d rules fuel W gi (perms d).length := by
  show (perms d).flatMap _ = ((perms d).take _).flatMap _
  rw [List.take_length]
theorem flP_succ (d : Nat) (rules : List ByteArray) (fuel : Nat) (W : List Int) (gi j : Nat) (c : List Int) (h : (perms d)[j]? = some c) :
    flP d rules fuel W gi (j + 1) = flP d rules fuel W gi j ++ fl d rules fuel (layS W gi c) (gi + 1) := by
  obtain ⟨hj, rfl⟩ := List.getElem?_eq_some_iff.1 h
  rw [flP, flP, List.take_succ_eq_append_getElem hj, List.flatMap_append, List.flatMap_cons, List.flatMap_nil, List.append_nil]
theorem lies_flP {d : Nat} {rules : List ByteArray} {fuel : Nat} {W : List Int} {gi j k : Nat} {c : List Int} {xs : List (List Int)} (hl : Lies xs k (fl d rules (fuel + 1) W gi)) (h : (perms d)[j]? = some c) :
    Lies xs (k + (flP d rules fuel W gi j).length) (fl d rules fuel (layS W gi c) (gi + 1)) := by
  intro i x hx
  have hi := (List.getElem?_eq_some_iff.1 hx).1
  have e : fl d rules (fuel + 1) W gi = (flP d rules fuel W gi j ++ fl d rules fuel (layS W gi c) (gi + 1)) ++ ((perms d).drop (j + 1)).flatMap (fun c => fl d rules fuel (layS W gi c) (gi + 1)) := by
    rw [← flP_succ _ _ _ _ _ _ _ h]
    show (perms d).flatMap _ = _
    conv => lhs; rw [← List.take_append_drop (j + 1) (perms d)]
    rw [List.flatMap_append]; rfl
  have h1 := hl ((flP d rules fuel W gi j).length + i) x (by
    rw [e, List.append_assoc, List.getElem?_append_right (by omega), Nat.add_sub_cancel_left, List.getElem?_append_left hi]
    exact hx)
  rwa [← Nat.add_assoc] at h1
/-- Equal but for what laying the columns from gi on will write. -/
def SameBut (g d gi : Nat) (W W' : List Int) : Prop := W.length = 22 ∧ W'.length = 22 ∧ ∀ k, k < 22 → (k < 2 + 10 * gi ∨ 2 + 10 * g ≤ k ∨ d ≤ (k - 2) % 5) → nth W k = nth W' k
theorem nth_set (l : List Int) (i k : Nat) (x : Int) : nth (l.set i x) k = if i = k ∧ i < l.length then x else nth l k := by
  unfold nth
  by_cases h : i = k
  · subst h
    by_cases hl : i < l.length
    · simp [hl]
    · simp [hl]
  · simp [h, List.getElem?_set_ne h]
theorem layK_same (W W' : List Int) (gi : Nat) (c : List Int) (hl : W.length = W'.length) (k : Nat) : ∀ m, (nth W k = nth W' k ∨ ∃ j, j < m ∧ (k = 2 + 10 * gi + j ∨ k = 2 + 10 * gi + 5 + (nth c j).toNat)) → k < W.length →
    nth (layK W gi c m) k = nth (layK W' gi c m) k := by
  intro m
  induction m with
  | zero => exact fun h _ => h.elim id (fun ⟨j, hj, _⟩ => absurd hj (by omega))
  | succ m ih =>
    intro h hk
    rw [layK_succ, layK_succ]
    simp only [nth_set, List.length_set, layK_length, hl]
    split
    · rfl
    · rename_i h2
      split
      · rfl
      · rename_i h1
        refine ih ?_ hk
        rcases h with h | ⟨j, hj, hjk⟩
        · exact .inl h
        · refine .inr ⟨j, ?_, hjk⟩
          by_cases e : j = m
          · subst e
            rcases hjk with hjk | hjk
            · exact absurd ⟨hjk.symm, by omega⟩ h1
            · exact absurd ⟨hjk.symm, by omega⟩ h2
          · omega
theorem layK_far (W : List Int) (gi : Nat) (c : List Int) (k : Nat) : ∀ m, (∀ j, j < m → k ≠ 2 + 10 * gi + j ∧ k ≠ 2 + 10 * gi + 5 + (nth c j).toNat) → nth (layK W gi c m) k = nth W k := by
  intro m
  induction m with
  | zero => intro _; rfl
  | succ m ih =>
    intro h
    rw [layK_succ]
    simp only [nth_set]
    rw [if_neg (fun e => (h m (by omega)).2 e.1.symm), if_neg (fun e => (h m (by omega)).1 e.1.symm)]
    exact ih (fun j hj => h j (by omega))
/-- A list of d different numbers below d has each of them. -/
theorem perm_has (d : Nat) (c : List Int) (hc : c.length = d ∧ c.all (hasB d) = true ∧ c.Nodup) (x : Nat) (hx : x < d) : ∃ j, j < d ∧ nth c j = x := by
  by_cases hin : (x : Int) ∈ c
  · obtain ⟨j, hj, e⟩ := List.getElem_of_mem hin
    exact ⟨j, by omega, by simp [nth, List.getElem?_eq_getElem hj, e]⟩
  · have := nodup_below d ((x : Int) :: c) (List.nodup_cons.2 ⟨hin, hc.2.2⟩) (fun y hy => by
      rcases List.mem_cons.1 hy with rfl | hy
      · omega
      · exact (hasB_iff _ _).1 (List.all_eq_true.1 hc.2.1 y hy))
    simp at this; omega
theorem nth_in (d : Nat) (c : List Int) (hc : c.length = d ∧ c.all (hasB d) = true ∧ c.Nodup) (j : Nat) (hj : j < d) : 0 ≤ nth c j ∧ nth c j < d :=
  (hasB_iff _ _).1 (List.all_eq_true.1 hc.2.1 _ (nth_mem c j (by omega)))
theorem SameBut.lay {g d gi : Nat} {W W' : List Int} {c : List Int} (h : SameBut g d gi W W') (hc : c.length = d ∧ c.all (hasB d) = true ∧ c.Nodup) (hd : d ≤ 5) : SameBut g d (gi + 1) (layS W gi c) (layS W' gi c) := by
  refine ⟨by rw [layS_length, h.1], by rw [layS_length, h.2.1], fun k hk hcase => ?_⟩
  refine layK_same W W' gi c (by rw [h.1, h.2.1]) k _ ?_ (by rw [h.1]; exact hk)
  by_cases hrow : 2 + 10 * gi ≤ k ∧ k < 2 + 10 * (gi + 1) ∧ (k - 2) % 5 < d
  · right
    by_cases hfirst : k < 2 + 10 * gi + 5
    · exact ⟨k - (2 + 10 * gi), by omega, .inl (by omega)⟩
    · obtain ⟨j, hj, e⟩ := perm_has d c hc (k - (2 + 10 * gi + 5)) (by omega)
      exact ⟨j, by omega, .inr (by omega)⟩
  · exact .inl (h.2.2 k hk (by omega))
theorem SameBut.self {g d gi : Nat} {W : List Int} {c : List Int} (hW : W.length = 22) (hc : c.length = d ∧ c.all (hasB d) = true ∧ c.Nodup) (hd : d ≤ 5) (hg : gi < g) : SameBut g d gi W (layS W gi c) := by
  refine ⟨hW, by rw [layS_length, hW], fun k _ hcase => (layK_far W gi c k _ fun j hj => ?_).symm⟩
  have := nth_in d c hc j (by omega)
  omega
theorem SameBut.trans {g d gi : Nat} {A B C : List Int} (h : SameBut g d gi A B) (k : SameBut g d gi B C) : SameBut g d gi A C :=
  ⟨h.1, k.2.1, fun i hi hc => (h.2.2 i hi hc).trans (k.2.2 i hi hc)⟩
theorem SameBut.refl {g d gi : Nat} {A : List Int} (h : A.length = 22) : SameBut g d gi A A := ⟨h, h, fun _ _ _ => rfl⟩
theorem SameBut.weak {g d gi gi' : Nat} {A B : List Int} (h : SameBut g d gi' A B) (hg : gi ≤ gi') : SameBut g d gi A B :=
  ⟨h.1, h.2.1, fun i hi hc => h.2.2 i hi (by omega)⟩
theorem nth_ext (l l' : List Int) (h : l.length = l'.length) (hn : ∀ k, k < l.length → nth l k = nth l' k) : l = l' := by
  apply List.ext_getElem h
  intro k h1 h2
  have := hn k h1
  simpa [nth, List.getElem?_eq_getElem h1, List.getElem?_eq_getElem h2] using this
theorem fl_same (d : Nat) (hd : d ≤ 5) (rules : List ByteArray) (g : Nat) : ∀ (fuel gi : Nat) (W W' : List Int), gi + fuel = g → SameBut g d gi W W' → fl d rules fuel W gi = fl d rules fuel W' gi := by
  intro fuel
  induction fuel with
  | zero =>
    intro gi W W' hg h
    have : W = W' := nth_ext W W' (by rw [h.1, h.2.1]) (fun k hk => h.2.2 k (by have := h.1; omega) (by omega))
    rw [this]
  | succ fuel ih =>
    intro gi W W' hg h
    simp only [fl]
    have : ∀ c ∈ perms d, fl d rules fuel (layS W gi c) (gi + 1) = fl d rules fuel (layS W' gi c) (gi + 1) := fun c hc => ih (gi + 1) _ _ (by omega) (h.lay (perms_ok d c hc) hd)
    rw [List.flatMap_def, List.flatMap_def, List.map_congr_left this]
/-- Laying keeps all sheets in 0 .. 4. -/
theorem layK_in (W : List Int) (gi : Nat) (c : List Int) (hW : wok W) (hc : ∀ j, j < 5 → j < c.length → 0 ≤ nth c j ∧ nth c j < 5) : ∀ m, m ≤ 5 → m ≤ c.length → wok (layK W gi c m) := by
  intro m
  induction m with
  | zero => intro _ _; exact hW
  | succ m ih =>
    intro h5 hl
    have hi := ih (by omega) (by omega)
    refine ⟨by rw [layK_length, hW.1], fun k hk1 hk2 => ?_⟩
    rw [layK_succ]
    simp only [nth_set]
    split
    · omega
    · split
      · exact hc m (by omega) (by omega)
      · exact hi.2 k hk1 hk2
theorem lay_ok (W : List Int) (gi : Nat) (c : List Int) (hW : wok W) (h5 : c.length ≤ 5) (hx : c.all (hasB 5) = true) : wok (layS W gi c) :=
  layK_in W gi c hW (fun j _ hj => (hasB_iff _ _).1 (List.all_eq_true.1 hx _ (nth_mem c j hj))) _ h5 (Nat.le_refl _)
theorem w0_ok (g d : Int) : wok (w0 g d) := by
  refine ⟨rfl, fun k h1 h2 => ?_⟩
  have : nth (w0 g d) k = 0 := by
    have e : k = 2 ∨ k = 3 ∨ k = 4 ∨ k = 5 ∨ k = 6 ∨ k = 7 ∨ k = 8 ∨ k = 9 ∨ k = 10 ∨ k = 11 ∨ k = 12 ∨ k = 13 ∨ k = 14 ∨ k = 15 ∨ k = 16 ∨ k = 17 ∨ k = 18 ∨ k = 19 ∨ k = 20 ∨ k = 21 := by omega
    rcases e with rfl | rfl | rfl | rfl | rfl | rfl | rfl | rfl | rfl | rfl | rfl | rfl | rfl | rfl | rfl | rfl | rfl | rfl | rfl | rfl <;> rfl
  omega
end
end Go.Proofs.Ytikedhkibdeheaa
