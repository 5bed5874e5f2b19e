/- The plain words of the numbering of sheets. Nothing is claimed here. -/
import Derived.Test.YtfaogfcbppojoaaCa
namespace Go.Proofs.Ytfaogfcbppojoaa
open Go.RowKit
/-- A sheet that was found: its number, from where, by which letter. -/
abbrev Fd := Int × Int × Int
def shs (L : List Fd) : List Int := L.map (·.1)
def sh (L : List Fd) (k : Nat) : Int := (L[k]?.getD (0, 0, 0)).1
def fr (L : List Fd) (k : Nat) : Int := (L[k]?.getD (0, 0, 0)).2.1
def lt (L : List Fd) (k : Nat) : Int := (L[k]?.getD (0, 0, 0)).2.2
def fc (L : List Fd) : List Value := L.flatMap fun x => [.int .i64 x.1, .int .i64 x.2.1, .int .i64 x.2.2]
theorem fc_snoc (L : List Fd) (x : Fd) : fc (L ++ [x]) = fc L ++ [.int .i64 x.1, .int .i64 x.2.1, .int .i64 x.2.2] := by simp [fc]
theorem fc_length (L : List Fd) : (fc L).length = L.length * 3 := by
  induction L with
  | nil => rfl
  | cons x L ih => simp [fc] at ih ⊢; omega
theorem fc_at (L : List Fd) (k : Nat) (h : k < L.length) : (fc L)[k * 3]? = some (.int .i64 (sh L k)) ∧ (fc L)[k * 3 + 1]? = some (.int .i64 (fr L k)) ∧ (fc L)[k * 3 + 2]? = some (.int .i64 (lt L k)) := by
  induction L generalizing k with
  | nil => simp at h
  | cons x L ih =>
    cases k with
    | zero => exact ⟨rfl, rfl, rfl⟩
    | succ k =>
      have := ih k (by simpa using h)
      have e : fc (x :: L) = .int .i64 x.1 :: .int .i64 x.2.1 :: .int .i64 x.2.2 :: fc L := rfl
      rw [e, show (k + 1) * 3 = k * 3 + 1 + 1 + 1 from by omega, show k * 3 + 1 + 1 + 1 + 1 = k * 3 + 1 + 1 + 1 + 1 from rfl, show k * 3 + 1 + 1 + 1 + 2 = k * 3 + 2 + 1 + 1 + 1 from by omega]
      simp only [List.getElem?_cons_succ]
      exact this
theorem sh_app (L : List Fd) (x : Fd) (k : Nat) (h : k < L.length) : sh (L ++ [x]) k = sh L k := by simp [sh, List.getElem?_append_left h]
theorem sh_mem (L : List Fd) (k : Nat) (h : k < L.length) : sh L k ∈ shs L := by
  simp only [sh, shs, List.getElem?_eq_getElem h, Option.getD_some]
  exact List.mem_map.2 ⟨_, List.getElem_mem h, rfl⟩
theorem shs_length (L : List Fd) : (shs L).length = L.length := by simp [shs]

/-- One letter of one sheet; the letters of a sheet; the sheets. -/
def numI (σ : Int → Int → Int) (at_ : Nat) (L : List Fd) (m : Nat) : List Fd :=
  if σ (sh L at_) m ∈ shs L then L else L ++ [(σ (sh L at_) m, (at_ : Int), (m : Int))]
def numR (σ : Int → Int → Int) (at_ : Nat) (L : List Fd) (m : Nat) : List Fd := (List.range m).foldl (numI σ at_) L
def numL (σ : Int → Int → Int) (g : Nat) (s : Int) (k : Nat) : List Fd :=
  (List.range k).foldl (fun L at_ => if at_ < L.length then numR σ at_ L g else L) [(s, 0, 0)]
theorem numR_succ (σ : Int → Int → Int) (at_ : Nat) (L : List Fd) (m : Nat) : numR σ at_ L (m + 1) = numI σ at_ (numR σ at_ L m) m := by simp [numR, List.range_succ]
theorem numL_succ (σ : Int → Int → Int) (g : Nat) (s : Int) (k : Nat) :
    numL σ g s (k + 1) = if k < (numL σ g s k).length then numR σ k (numL σ g s k) g else numL σ g s k := by
  unfold numL; rw [List.range_succ, List.foldl_append]; rfl
/-- The sheets found are different and lie below n. -/
def numOk (n : Int) (L : List Fd) : Prop := 0 < L.length ∧ (shs L).Nodup ∧ ∀ x ∈ shs L, 0 ≤ x ∧ x < n
theorem numI_ok {n : Int} {σ : Int → Int → Int} {at_ : Nat} {L : List Fd} {m : Nat} (h : numOk n L) (ha : at_ < L.length) (hσ : 0 ≤ σ (sh L at_) m ∧ σ (sh L at_) m < n) :
    numOk n (numI σ at_ L m) ∧ at_ < (numI σ at_ L m).length := by
  unfold numI
  by_cases hin : σ (sh L at_) m ∈ shs L
  · rw [if_pos hin]; exact ⟨h, ha⟩
  · rw [if_neg hin]
    refine ⟨⟨by simp, ?_, ?_⟩, by simp; omega⟩
    · have : shs (L ++ [(σ (sh L at_) m, (at_ : Int), (m : Int))]) = shs L ++ [σ (sh L at_) m] := by simp [shs]
      rw [this, List.nodup_append]
      exact ⟨h.2.1, by simp, fun a ha' b hb => by simp at hb; subst hb; exact fun e => hin (e ▸ ha')⟩
    · intro x hx
      simp [shs] at hx
      rcases hx with hx | hx
      · exact h.2.2 x (by simpa [shs] using hx)
      · subst hx; exact hσ
theorem numR_ok {n : Int} {σ : Int → Int → Int} {at_ g : Nat} {L : List Fd} (hσ : ∀ x m : Int, 0 ≤ x → x < n → 0 ≤ m → m < g → 0 ≤ σ x m ∧ σ x m < n) (h : numOk n L) (ha : at_ < L.length) :
    ∀ m, m ≤ g → numOk n (numR σ at_ L m) ∧ at_ < (numR σ at_ L m).length := by
  intro m
  induction m with
  | zero => intro _; exact ⟨h, ha⟩
  | succ m ih =>
    intro hm
    have := ih (by omega)
    rw [numR_succ]
    have hx := this.1.2.2 _ (sh_mem _ at_ this.2)
    exact numI_ok this.1 this.2 (hσ _ _ hx.1 hx.2 (by omega) (by omega))
theorem nodup_below : ∀ (n : Nat) (l : List Int), l.Nodup → (∀ x ∈ l, 0 ≤ x ∧ x < n) → l.length ≤ n := by
  intro n
  induction n with
  | zero =>
    intro l _ hb
    cases l with
    | nil => simp
    | cons x l => have := hb x (by simp); omega
  | succ n ih =>
    intro l hd hb
    by_cases hm : (n : Int) ∈ l
    · have h1 := ih (l.erase (n : Int)) (hd.erase _) (fun x hx => by
        have h2 := (List.Nodup.mem_erase_iff hd).1 hx
        have h3 := hb x h2.2
        have := h2.1
        omega)
      rw [List.length_erase_of_mem hm] at h1
      omega
    · have := ih l hd (fun x hx => by
        have := hb x hx
        have : x ≠ (n : Int) := fun e => hm (e ▸ hx)
        omega)
      omega
theorem numOk_length {n : Nat} {L : List Fd} (h : numOk n L) : L.length ≤ n := by
  have := nodup_below n (shs L) h.2.1 h.2.2
  rwa [shs_length] at this
theorem numL_ok {n : Int} {σ : Int → Int → Int} {g : Nat} {s : Int} (hσ : ∀ x m : Int, 0 ≤ x → x < n → 0 ≤ m → m < g → 0 ≤ σ x m ∧ σ x m < n) (hs : 0 ≤ s ∧ s < n) (k : Nat) : numOk n (numL σ g s k) := by
  induction k with
  | zero => exact ⟨by simp [numL], by simp [numL, shs], by intro x hx; simp [numL, shs] at hx; subst hx; exact hs⟩
  | succ k ih =>
    rw [numL_succ]
    by_cases hk : k < (numL σ g s k).length
    · rw [if_pos hk]; exact (numR_ok hσ ih hk g (Nat.le_refl _)).1
    · rw [if_neg hk]; exact ih
theorem numL_stop (σ : Int → Int → Int) (g : Nat) (s : Int) (k : Nat) (hk : (numL σ g s k).length ≤ k) : ∀ j, k ≤ j → numL σ g s j = numL σ g s k := by
  intro j
  induction j with
  | zero => intro h; obtain rfl : k = 0 := by omega
            rfl
  | succ j ih =>
    intro h
    by_cases e : k = j + 1
    · rw [e]
    · have h1 := ih (by omega)
      rw [numL_succ, h1, if_neg (by omega)]
/-- All sheets that arise from s: n is a bound of them. -/
def numS (σ : Int → Int → Int) (g : Nat) (s : Int) : List Fd := numL σ g s 25
theorem numS_of (σ : Int → Int → Int) (g : Nat) (s : Int) (k : Nat) (h25 : k ≤ 25) (hk : (numL σ g s k).length ≤ k) : numS σ g s = numL σ g s k := numL_stop σ g s k hk 25 h25
/-- Where a letter sends a sheet, by numbers. -/
def sg (W : List Int) (s l : Int) : Int := nth W (2 + l.toNat * 5 + s.toNat)
theorem shs_snoc (L : List Fd) (x : Fd) : shs (L ++ [x]) = shs L ++ [x.1] := by simp [shs]
theorem numI_in {σ : Int → Int → Int} {k m : Nat} {L L' : List Fd} (h : L' = numR σ k L m) (hin : σ (sh L' k) m ∈ shs L') : numR σ k L (m + 1) = L' := by
  rw [numR_succ, ← h, numI, if_pos hin]
theorem numI_new {σ : Int → Int → Int} {k m : Nat} {L L' : List Fd} (h : L' = numR σ k L m) (hin : ¬ σ (sh L' k) m ∈ shs L') : numR σ k L (m + 1) = L' ++ [(σ (sh L' k) m, (k : Int), (m : Int))] := by
  rw [numR_succ, ← h, numI, if_neg hin]
/-- A standard winding. -/
def stdB (W : List Int) : Bool := ((List.range (numS (sg W) (2 * nth W 0).toNat 0).length).all fun k : Nat => decide (sh (numS (sg W) (2 * nth W 0).toNat 0) k = k)) && decide (((numS (sg W) (2 * nth W 0).toNat 0).length : Int) = nth W 1)
theorem stdB_no (W : List Int) (k : Nat) (hk : k < (numS (sg W) (2 * nth W 0).toNat 0).length) (h : sh (numS (sg W) (2 * nth W 0).toNat 0) k ≠ k) : stdB W = false := by
  have : ((List.range (numS (sg W) (2 * nth W 0).toNat 0).length).all fun k : Nat => decide (sh (numS (sg W) (2 * nth W 0).toNat 0) k = k)) = false :=
    List.all_eq_false.2 ⟨k, by simpa using hk, by simpa using h⟩
  unfold stdB; rw [this]; rfl
theorem numS_ok (W : List Int) (hW : wok W) (g : Int) (hg : g = 1 ∨ g = 2) (s : Int) (hs : 0 ≤ s ∧ s < 5) : numOk (5 : Nat) (numS (sg W) (2 * g).toNat s) :=
  numL_ok (fun x m h1 h2 h3 h4 => hW.2 _ (by omega) (by omega)) ⟨hs.1, by omega⟩ 25
end Go.Proofs.Ytfaogfcbppojoaa
