/- The walk of newGraph. -/
import Derived.Test.YtngonghgkeobhaaBb
namespace Go.Proofs.Ytngonghgkeobhaa
open Go.RowKit
set_option linter.unusedVariables false
set_option linter.unusedSimpArgs false

/-- The cells of a graph. -/
def gc (n : Int) (v : Value) (J : List Int) : Array Value := (Value.int .i64 n :: v :: J.map (Value.int .u64)).toArray
def zJ : List Int := List.replicate 144 0
set_option maxRecDepth 100000 in
theorem zero_graph (W : World) : (zeroValue 103).run Try.prog W = .ok (.agg (gc 0 (.slice none 0 0) zJ)) W := by kernel_rfl
theorem gc_build (n : Int) (v : Value) : ((gc 0 (.slice none 0 0) zJ).setIfInBounds 0 (.int .i64 n)).setIfInBounds 1 v = gc n v zJ := by
  unfold gc
  simp
theorem gc_at (n : Int) (v : Value) (J : List Int) (i : Nat) (h : i < J.length) : (gc n v J)[2 + i]? = some (.int .u64 (nth J i)) := by
  unfold gc
  rw [List.getElem?_toArray, show 2 + i = i + 1 + 1 by omega, List.getElem?_cons_succ, List.getElem?_cons_succ, List.getElem?_map, nth, List.getElem?_eq_getElem h]
  rfl
theorem gc_set (n : Int) (v : Value) (J : List Int) (i : Nat) (x : Int) : (gc n v J).setIfInBounds (2 + i) (.int .u64 x) = gc n v (J.set i x) := by
  unfold gc
  rw [List.setIfInBounds_toArray, show 2 + i = i + 1 + 1 by omega, List.set_cons_succ, List.set_cons_succ, List.map_set]
/-- The joints of the first k edges. -/
def jK (l : List Ed) : Nat → List Int
  | 0 => zJ
  | k + 1 => match l[k]? with
    | some x => ((jK l k).set (x.1.toNat * 12 + x.2.1.toNat) (2 ^ k : Nat)).set (x.2.1.toNat * 12 + x.1.toNat) (2 ^ k : Nat)
    | none => jK l k
theorem jK_length (l : List Ed) : ∀ k, (jK l k).length = 144
  | 0 => by simp [jK, zJ]
  | k + 1 => by
    unfold jK
    split
    · rw [List.length_set, List.length_set, jK_length l k]
    · exact jK_length l k
theorem jK_succ (l : List Ed) (k a b : Nat) (c : Int) (h : l[k]? = some ((a : Int), (b : Int), c)) : jK l (k + 1) = ((jK l k).set (a * 12 + b) (2 ^ k : Nat)).set (b * 12 + a) (2 ^ k : Nat) := by
  rw [jK, h]; simp
theorem nth_set_same (J : List Int) (i : Nat) (x : Int) (h : i < J.length) : nth (J.set i x) i = x := by simp [nth, h]
theorem nth_set_ne (J : List Int) (i j : Nat) (x : Int) (h : i ≠ j) : nth (J.set i x) j = nth J j := by simp [nth, List.getElem?_set_ne h]
/-- Edges with the same ends as the k-th one, before it. -/
def dupK (l : List Ed) (a b : Int) (k : Nat) : Bool := (l.take k).any fun x => decide (x.1 = a ∧ x.2.1 = b)
theorem jK_at (n : Int) (l : List Ed) (hn : n ≤ 12) : ∀ (k a b : Nat), (l.take k).all (edgeB n) = true → a < b → b < 12 → (nth (jK l k) (a * 12 + b) ≠ 0 ↔ dupK l a b k = true)
  | 0, a, b, _, _, _ => by
    have : nth zJ (a * 12 + b) = 0 := by
      unfold nth zJ
      rw [List.getElem?_replicate]
      split <;> rfl
    simp [jK, dupK, this]
  | k + 1, a, b, ha, hab, hb => by
    cases hx : l[k]? with
    | none =>
      have hk : l.length ≤ k := List.getElem?_eq_none_iff.1 hx
      have e1 : l.take (k + 1) = l.take k := by rw [List.take_of_length_le (by omega), List.take_of_length_le hk]
      have ih := jK_at n l hn k a b (by rw [← e1]; exact ha) hab hb
      rw [jK, hx]
      unfold dupK at *
      rw [e1]
      exact ih
    | some x =>
      have e1 := take_at l k x hx
      rw [e1, List.all_append, Bool.and_eq_true] at ha
      have hxe : edgeB n x = true := by simpa using ha.2
      have ih := jK_at n l hn k a b ha.1 hab hb
      unfold edgeB at hxe
      simp only [Bool.and_eq_true, decide_eq_true_eq] at hxe
      obtain ⟨h0, h1, h2, h3, h4⟩ := hxe
      obtain ⟨xa, xb, xc⟩ := x
      simp only at h0 h1 h2 h3 h4
      obtain ⟨p, rfl⟩ := Int.eq_ofNat_of_zero_le h0
      obtain ⟨q, rfl⟩ := Int.eq_ofNat_of_zero_le (show 0 ≤ xb by omega)
      rw [jK_succ l k p q xc hx]
      have hp2 : ((2 ^ k : Nat) : Int) ≠ 0 := by have : 0 < 2 ^ k := Nat.pow_pos (by decide); omega
      have hlen := jK_length l k
      have ed : dupK l a b (k + 1) = (dupK l a b k || decide (p = a ∧ q = b)) := by
        unfold dupK
        rw [e1, List.any_append]
        congr 1
        simp only [List.any_cons, List.any_nil, Bool.or_false]
        rw [decide_eq_decide]
        omega
      rw [ed, Bool.or_eq_true, decide_eq_true_eq]
      have hne : q * 12 + p ≠ a * 12 + b := by omega
      rw [nth_set_ne _ _ _ _ hne]
      by_cases e : p = a ∧ q = b
      · obtain ⟨rfl, rfl⟩ := e
        rw [nth_set_same _ _ _ (by omega)]
        exact ⟨fun _ => .inr ⟨rfl, rfl⟩, fun _ => hp2⟩
      · rw [nth_set_ne _ _ _ _ (by omega)]
        rw [ih]
        exact ⟨fun h => .inl h, fun h => h.resolve_right e⟩
/-- 'the first k edges are edges of a graph'. -/
def goodK (n : Int) (l : List Ed) : Nat → Bool
  | 0 => true
  | k + 1 => goodK n l k && match l[k]? with
    | some x => edgeB n x && !dupK l x.1 x.2.1 k
    | none => true
theorem goodK_all (n : Int) (l : List Ed) : ∀ k, goodK n l k = true → (l.take k).all (edgeB n) = true
  | 0, _ => by simp
  | k + 1, h => by
    unfold goodK at h
    rw [Bool.and_eq_true] at h
    have ih := goodK_all n l k h.1
    cases hx : l[k]? with
    | none => rw [List.take_of_length_le (by have := List.getElem?_eq_none_iff.1 hx; omega)]; rw [List.take_of_length_le (List.getElem?_eq_none_iff.1 hx)] at ih; exact ih
    | some x =>
      rw [hx] at h
      simp only [Bool.and_eq_true] at h
      rw [take_at l k x hx, List.all_append, ih]
      simp [h.2.1]
/-- 'n and l are a graph'. -/
def graphB (n : Int) (l : List Ed) : Bool := decide (1 ≤ n ∧ n ≤ 12) && (decide (l.length ≤ 40) && goodK n l l.length)
theorem goodK_fall (n : Int) (l : List Ed) (k : Nat) (h : goodK n l k = false) : ∀ m, k ≤ m → goodK n l m = false := by
  intro m hm
  induction m with
  | zero =>
    have e : k = 0 := by omega
    subst e
    exact h
  | succ m ih =>
    by_cases e : k = m + 1
    · subst e; exact h
    · unfold goodK; rw [ih (by omega)]; rfl
end Go.Proofs.Ytngonghgkeobhaa
