/- The plain words of the casing proofs: letters, words, values in memory. Nothing is claimed here. Laws on memory for the casing walks, over any program. Nothing is claimed here. More plain words of the casing proofs. Nothing is claimed here. The plain words of the factors. Nothing is claimed here. -/
import Derived.Below
import Derived.Laws.OwnMore
import Derived.RowKit
import Derived.Laws.Rows
import Derived.Lib.Bytealg
import Derived.Calls
import Derived.Laws.Tables
import Derived.Laws.NewBlocks
import Derived.Deep.Draws
import Derived.Laws.ResultCell
import Derived.StillTailTactics
import Derived.WalkKit
import Derived.OneCell
import Derived.Laws.AppendOwn
namespace Go.Proofs.YteffkcnlipdgaaaDoor
section
open Go.RowKit

/-- The k-th of a list of ints. -/
def nth (l : List Int) (k : Nat) : Int := l[k]?.getD 0
/-- The cells of a list of ints. -/
def ic (l : List Int) : Array Value := (l.map (Value.int .i64)).toArray
theorem ic_size (l : List Int) : (ic l).size = l.length := by simp [ic]
theorem ic_at (l : List Int) (k : Nat) (h : k < l.length) : (ic l)[k]? = some (.int .i64 (nth l k)) := by
  simp [ic, nth, List.getElem?_eq_getElem h]
theorem cell_ic {w : World} {b : Nat} {t : TypeId} (l : List Int) (h : w.heap[b]? = some (.cells (ic l) t (0, 0))) (k : Nat) (hk : k < l.length) :
    w.cell? ⟨b, k, none⟩ = some (.int .i64 (nth l k)) := by
  simp [World.cell?, h, ic_at l k hk]
theorem cell_ic_new (w : World) (t : TypeId) (l : List Int) (k : Nat) (hk : k < l.length) :
    (w.alloc (.cells (ic l) t)).cell? ⟨w.heap.size, k, none⟩ = some (.int .i64 (nth l k)) :=
  cell_ic l (heap_alloc_new w _) k hk

/-- 'n is a number of letters', 'd is a number of sheets', 'sheet s of d'. -/
def lettersB (n : Int) : Bool := decide (n = 1 ∨ n = 2)
def sheetsB (n : Int) : Bool := decide (1 ≤ n ∧ n ≤ 5)
def hasB (d s : Int) : Bool := decide (0 ≤ s ∧ s < d)

/-- The letters in their order; the place of a letter. -/
def names : List UInt8 := [97, 65, 98, 66]
def li (c : UInt8) : Int := if c = 97 then 0 else if c = 65 then 1 else if c = 98 then 2 else if c = 66 then 3 else -1
theorem indexByte_names (c : UInt8) : Lib.indexByte [97, 65, 98, 66] c = li c := by
  unfold li
  by_cases h1 : c = 97
  · subst h1; decide
  · by_cases h2 : c = 65
    · subst h2; decide
    · by_cases h3 : c = 98
      · subst h3; decide
      · by_cases h4 : c = 66
        · subst h4; decide
        · simp [Lib.indexByte, h1, h2, h3, h4, beq_eq_false_iff_ne.2 (Ne.symm h1), beq_eq_false_iff_ne.2 (Ne.symm h2), beq_eq_false_iff_ne.2 (Ne.symm h3), beq_eq_false_iff_ne.2 (Ne.symm h4)]
def okL (g : Int) (c : UInt8) : Bool := decide (c = 97 ∨ c = 65 ∨ (g = 2 ∧ (c = 98 ∨ c = 66)))
theorem indexByte_take (g : Int) (hg : g = 1 ∨ g = 2) (c : UInt8) : decide (Lib.indexByte ([97, 65, 98, 66].take (2 * g).toNat) c < 0) = !okL g c := by
  rcases hg with rfl | rfl
  · show decide (Lib.indexByte [97, 65] c < 0) = _
    by_cases h1 : c = 97
    · subst h1; decide
    · by_cases h2 : c = 65
      · subst h2; decide
      · simp [okL, Lib.indexByte, h1, h2, beq_eq_false_iff_ne.2 (Ne.symm h1), beq_eq_false_iff_ne.2 (Ne.symm h2)]
  · show decide (Lib.indexByte [97, 65, 98, 66] c < 0) = _
    rw [indexByte_names]
    unfold li okL
    by_cases h1 : c = 97
    · simp [h1]
    · by_cases h2 : c = 65
      · simp [h2]
      · by_cases h3 : c = 98
        · simp [h3]
        · by_cases h4 : c = 66
          · simp [h4]
          · simp [h1, h2, h3, h4]
theorem okL_1 (c : UInt8) : (Lib.indexByte [97, 65] c < 0 → okL 1 c = false) ∧ (0 ≤ Lib.indexByte [97, 65] c → okL 1 c = true) := by
  have h := indexByte_take 1 (Or.inl rfl) c
  constructor
  · intro h1; have h2 : decide (Lib.indexByte [97, 65] c < 0) = true := by simpa using h1
    rw [show ([97, 65, 98, 66].take (2 * (1 : Int)).toNat : List UInt8) = [97, 65] from rfl] at h; rw [h] at h2; simpa using h2
  · intro h1; have h2 : decide (Lib.indexByte [97, 65] c < 0) = false := by simpa using h1
    rw [show ([97, 65, 98, 66].take (2 * (1 : Int)).toNat : List UInt8) = [97, 65] from rfl] at h; rw [h] at h2; simpa using h2
theorem okL_2 (c : UInt8) : (Lib.indexByte [97, 65, 98, 66] c < 0 → okL 2 c = false) ∧ (0 ≤ Lib.indexByte [97, 65, 98, 66] c → okL 2 c = true) := by
  have h := indexByte_take 2 (Or.inr rfl) c
  constructor
  · intro h1; have h2 : decide (Lib.indexByte [97, 65, 98, 66] c < 0) = true := by simpa using h1
    rw [show ([97, 65, 98, 66].take (2 * (2 : Int)).toNat : List UInt8) = [97, 65, 98, 66] from rfl] at h; rw [h] at h2; simpa using h2
  · intro h1; have h2 : decide (Lib.indexByte [97, 65, 98, 66] c < 0) = false := by simpa using h1
    rw [show ([97, 65, 98, 66].take (2 * (2 : Int)).toNat : List UInt8) = [97, 65, 98, 66] from rfl] at h; rw [h] at h2; simpa using h2
def wordB (g : Int) (s : List UInt8) : Bool := decide (s.length ≤ 30) && s.all (okL g)
theorem take_snoc (s : ByteArray) (k : Nat) (h : k < s.size) : s.data.toList.take (k + 1) = s.data.toList.take k ++ [s[k]] := by
  rw [List.take_succ_eq_append_getElem (by simpa using h)]; rfl
theorem wordB_bad (g : Int) (s : ByteArray) (k : Nat) (hk : k < s.size) (h : okL g s[k] = false) : wordB g s.data.toList = false := by
  unfold wordB
  rw [Bool.and_eq_false_iff]
  right
  rw [List.all_eq_false]
  exact ⟨s[k], by show s.data[k] ∈ _; simp, by simp [h]⟩
theorem wordB_ok (g : Int) (s : ByteArray) (h30 : s.size ≤ 30) (h : s.data.toList.all (okL g) = true) : wordB g s.data.toList = true := by
  unfold wordB; rw [h]; simp; exact h30
theorem all_snoc {p : UInt8 → Bool} (s : ByteArray) (k : Nat) (hk : k < s.size) (h : (s.data.toList.take k).all p = true) (h' : p s[k] = true) : (s.data.toList.take (k + 1)).all p = true := by
  rw [take_snoc s k hk, List.all_append, h]; simp [h']
theorem ret_bool {a b : Bool} (h : a = b) : Ending.returned (.bool a) = .returned (.bool b) := by rw [h]
theorem ret_int {k : IntKind} {a b : Int} (h : a = b) : Ending.returned (.int k a) = .returned (.int k b) := by rw [h]
theorem bcell {W w1 : World} (hb : Below W.heap.size W w1) : (∀ b o, b < W.heap.size → w1.cell? ⟨b, o, none⟩ = W.cell? ⟨b, o, none⟩) ∧ (∀ b o, b < W.heap.size → w1.frozen? ⟨b, o, none⟩ = W.frozen? ⟨b, o, none⟩) :=
  ⟨fun b o h => hb.cell (p := ⟨b, o, none⟩) h, fun b o h => hb.frozen (p := ⟨b, o, none⟩) h⟩
/-- Block g holds just the cells cs. -/
def At (w : World) (g : Nat) (t : TypeId) (cs : Array Value) : Prop := w.heap[g]? = some (.cells cs t (0, 0))
section
variable {w w' : World} {g : Nat} {t : TypeId} {cs : Array Value}
theorem At.lt (h : At w g t cs) : g < w.heap.size := (Array.getElem?_eq_some_iff.1 h).1
theorem At.cell (h : At w g t cs) (i : Nat) : w.cell? ⟨g, i, none⟩ = cs[i]? := cell_of_row w g i cs t (0, 0) h
theorem At.frozen (h : At w g t cs) (i : Nat) : w.frozen? ⟨g, i, none⟩ = false := frozen_of_row w g i cs t h
theorem At.new (w : World) (t : TypeId) (cs : Array Value) : At (w.alloc (.cells cs t)) w.heap.size t cs := heap_alloc_new w _
theorem At.new2 (w : World) (o : Obj) (t : TypeId) (cs : Array Value) : At ((w.alloc o).alloc (.cells cs t)) (w.heap.size + 1) t cs := heap_alloc2_new w o _
theorem At.alloc (h : At w g t cs) (o : Obj) : At (w.alloc o) g t cs := (Below.heap_alloc w o g h.lt).trans h
theorem At.drew (h : At w g t cs) : At w.drew g t cs := h
theorem At.drewN (h : At w g t cs) (n : Nat) : At (w.drewN n) g t cs := h
theorem At.set (h : At w g t cs) (i : Nat) (u : Value) : At (w.setCell ⟨g, i, none⟩ u) g t (cs.setIfInBounds i u) := heap_setCell_same w g i cs t u h
theorem At.far (h : At w g t cs) {p : Addr} (hp : g ≠ p.block) (u : Value) : At (w.setCell p u) g t cs := (heap_setCell_other w p g u hp).trans h
theorem At.below {B : Nat} (h : At w g t cs) (hb : Below B w w') (hg : g < B) : At w' g t cs := (hb.block g hg).trans h
theorem At.later (h : At w g t cs) (hb : Below w.heap.size w w') : At w' g t cs := h.below hb h.lt
theorem At.int {l : List Int} (h : At w g t (ic l)) (k : Nat) (hk : k < l.length) : w.cell? ⟨g, k, none⟩ = some (.int .i64 (nth l k)) := cell_ic l h k hk
theorem At.row (h : At w g t cs) (cs' : Array Value) : At (w.setRow g cs') g t cs' := by
  obtain ⟨hlt, hk⟩ := Array.getElem?_eq_some_iff.1 h
  show (w.heap.modify g _)[g]? = _
  rw [Array.getElem?_eq_getElem (by rw [Array.size_modify]; exact hlt), Array.getElem_modify_self, hk]
theorem At.rowfar {g' : Nat} (h : At w g t cs) (hn : g ≠ g') (cs' : Array Value) : At (w.setRow g' cs') g t cs := (setRow_other w g' g cs' hn).trans h
theorem At.grown {row : Option Nat} (h : At w g t cs) (hg : w.grownBy w' row) (hn : some g ≠ row) : At w' g t cs := (hg.block g h.lt hn).trans h
theorem below_drewN {B n : Nat} (h : Below B w w') : Below B w (w'.drewN n) := ⟨h.os, h.tape, h.output, h.size, h.block⟩
theorem below_row {B : Nat} {a : World} (h : Below B a w) (hg : B ≤ g) (cs : Array Value) : Below B a (w.setRow g cs) :=
  h.trans ⟨rfl, rfl, rfl, by simp, fun k hk => setRow_other w g k cs (by omega)⟩
end
/-- The slice v has n elements of one cell; the k-th holds a value of which P k says something. -/
def Rd (w : World) (v : Value) (n : Nat) (P : Nat → Value → Prop) : Prop :=
  ∃ A c, v = .slice A n c ∧ n ≤ maxLen ∧ ∀ k, k < n → ∃ b off u, A = some ⟨b, off, none⟩ ∧ w.cell? ⟨b, off + k, none⟩ = some u ∧ P k u
theorem Rd.below {w w' : World} {v : Value} {n : Nat} {P : Nat → Value → Prop} (h : Rd w v n P) (hb : Below w.heap.size w w') : Rd w' v n P := by
  obtain ⟨A, c, rfl, hm, hc⟩ := h
  refine ⟨A, c, rfl, hm, fun k hk => ?_⟩
  obtain ⟨b, off, u, hA, hcell, hp⟩ := hc k hk
  exact ⟨b, off, u, hA, (hb.cell (p := ⟨b, off + k, none⟩) (block_lt_of_cell hcell)).trans hcell, hp⟩
theorem Rd.mono {w : World} {v : Value} {n : Nat} {P Q : Nat → Value → Prop} (h : Rd w v n P) (hq : ∀ k u, k < n → P k u → Q k u) : Rd w v n Q := by
  obtain ⟨A, c, rfl, hm, hc⟩ := h
  refine ⟨A, c, rfl, hm, fun k hk => ?_⟩
  obtain ⟨b, off, u, hA, hcell, hp⟩ := hc k hk
  exact ⟨b, off, u, hA, hcell, hq k u hk hp⟩
/-- A slice of ints; a slice of strings; a slice of slices of ints. -/
def RdI (w : World) (v : Value) (l : List Int) : Prop := Rd w v l.length fun k u => u = .int .i64 (nth l k)
def RdS (w : World) (v : Value) (l : List ByteArray) : Prop := Rd w v l.length fun k u => ∃ s, l[k]? = some s ∧ u = .string s
def RdT (w : World) (v : Value) (t : List (List Int)) : Prop := Rd w v t.length fun k u => ∃ l, t[k]? = some l ∧ RdI w u l
theorem RdI.below {w w' : World} {v : Value} {l : List Int} (h : RdI w v l) (hb : Below w.heap.size w w') : RdI w' v l := Rd.below h hb
theorem RdS.below {w w' : World} {v : Value} {l : List ByteArray} (h : RdS w v l) (hb : Below w.heap.size w w') : RdS w' v l := Rd.below h hb
theorem RdT.below {w w' : World} {v : Value} {t : List (List Int)} (h : RdT w v t) (hb : Below w.heap.size w w') : RdT w' v t :=
  Rd.mono (Rd.below h hb) fun _ _ _ ⟨l, hl, hr⟩ => ⟨l, hl, hr.below hb⟩
theorem cell_keep {w w' : World} {b o : Nat} {u : Value} (h : w.cell? ⟨b, o, none⟩ = some u) (hb : Below w.heap.size w w') : w'.cell? ⟨b, o, none⟩ = some u :=
  (hb.cell (p := ⟨b, o, none⟩) (block_lt_of_cell h)).trans h
/-- A shorthand: everything that lay is as it was. -/
abbrev Keeps (w w' : World) : Prop := Below w.heap.size w w'
theorem Keeps.alloc {a w : World} (h : Keeps a w) (o : Obj) : Keeps a (w.alloc o) := Below.alloc h h.size o
theorem Keeps.next {a w w' : World} (h : Keeps a w) (h' : Keeps w w') : Keeps a w' := h.trans (h'.mono h.size)
/-- Which of the numbers below n have been met. -/
def tk (l : List Int) (n : Nat) : Array Value := ((List.range n).map fun s : Nat => Value.bool (decide ((s : Int) ∈ l))).toArray
theorem tk_at (l : List Int) (n s : Nat) (h : s < n) : (tk l n)[s]? = some (.bool (decide ((s : Int) ∈ l))) := by simp [tk, h]
theorem tk_set (l : List Int) (n : Nat) (x : Int) (h : 0 ≤ x) : (tk l n).setIfInBounds x.toNat (.bool true) = tk (l ++ [x]) n := by
  apply Array.ext_getElem?
  intro i
  rw [Array.getElem?_setIfInBounds]
  by_cases hi : i < n
  · rw [tk_at _ _ _ hi, tk_at _ _ _ hi]
    by_cases hx : x.toNat = i
    · have : (i : Int) = x := by omega
      simp [hx, this, tk, hi]
    · have : ¬ (i : Int) = x := by omega
      simp [hx, this]
  · have h1 : (tk l n)[i]? = none := by simp [tk]; omega
    have h2 : (tk (l ++ [x]) n)[i]? = none := by simp [tk]; omega
    rw [h1, h2]
    split
    · simp [tk]; omega
    · rfl
/-- A column of d sheets. -/
def colB (d : Int) (l : List Int) : Bool := decide ((l.length : Int) = d) && (l.all (hasB d) && decide l.Nodup)
theorem take_nth (l : List Int) (k : Nat) (h : k < l.length) : l.take (k + 1) = l.take k ++ [nth l k] := by
  rw [List.take_succ_eq_append_getElem h]; simp [nth, List.getElem?_eq_getElem h]
theorem nth_mem (l : List Int) (k : Nat) (h : k < l.length) : nth l k ∈ l := by simp [nth, List.getElem?_eq_getElem h]
theorem colB_has (d : Int) (l : List Int) (k : Nat) (h : k < l.length) (hn : hasB d (nth l k) = false) : colB d l = false := by
  unfold colB
  have : l.all (hasB d) = false := List.all_eq_false.2 ⟨_, nth_mem l k h, by simp [hn]⟩
  simp [this]
theorem colB_twice (d : Int) (l : List Int) (k : Nat) (h : k < l.length) (hn : nth l k ∈ l.take k) : colB d l = false := by
  unfold colB
  have : ¬ l.Nodup := fun hd => by
    rw [← List.take_append_drop (k + 1) l, take_nth l k h, List.nodup_append] at hd
    have h1 := hd.1
    rw [List.nodup_append] at h1
    exact h1.2.2 _ hn _ (by simp) rfl
  simp [this]
theorem colB_yes (d : Int) (l : List Int) (h1 : (l.length : Int) = d) (h2 : l.all (hasB d) = true) (h3 : l.Nodup) : colB d l = true := by
  unfold colB; simp only [h1, h2, h3, decide_true, Bool.and_self]
theorem all_nth (d : Int) (l : List Int) (k : Nat) (h : k < l.length) (h1 : (l.take k).all (hasB d) = true) (h2 : hasB d (nth l k) = true) : (l.take (k + 1)).all (hasB d) = true := by
  rw [take_nth l k h, List.all_append, h1]; simp [h2]
theorem nodup_nth (l : List Int) (k : Nat) (h : k < l.length) (h1 : (l.take k).Nodup) (h2 : nth l k ∉ l.take k) : (l.take (k + 1)).Nodup := by
  rw [take_nth l k h, List.nodup_append]
  exact ⟨h1, by simp, fun a ha b hb => by simp at hb; subst hb; exact fun e => h2 (e ▸ ha)⟩
theorem hasB_iff (d x : Int) : hasB d x = true ↔ 0 ≤ x ∧ x < d := by simp [hasB]
theorem ic_set (l : List Int) (i : Nat) (x : Int) : (ic l).setIfInBounds i (.int .i64 x) = ic (l.set i x) := by
  simp [ic, List.map_set]
/-- What laying a column of the generator gi does to the cells of a winding: k sheets of it. -/
def layK (W : List Int) (gi : Nat) (l : List Int) (k : Nat) : List Int :=
  (List.range k).foldl (fun W j => (W.set (2 + 10 * gi + j) (nth l j)).set (2 + 10 * gi + 5 + (nth l j).toNat) (j : Int)) W
theorem layK_zero (W : List Int) (gi : Nat) (l : List Int) : layK W gi l 0 = W := rfl
theorem layK_succ (W : List Int) (gi : Nat) (l : List Int) (k : Nat) :
    layK W gi l (k + 1) = ((layK W gi l k).set (2 + 10 * gi + k) (nth l k)).set (2 + 10 * gi + 5 + (nth l k).toNat) (k : Int) := by
  simp [layK, List.range_succ]
theorem layK_length (W : List Int) (gi : Nat) (l : List Int) (k : Nat) : (layK W gi l k).length = W.length := by
  induction k with
  | zero => rfl
  | succ k ih => simp [layK_succ, ih]
def layS (W : List Int) (gi : Nat) (l : List Int) : List Int := layK W gi l l.length
theorem layS_length (W : List Int) (gi : Nat) (l : List Int) : (layS W gi l).length = W.length := layK_length ..
theorem grown_set {a w : World} {b : Nat} (h : a.grownBy w (some b)) (o : Nat) (u : Value) : a.grownBy (w.setCell ⟨b, o, none⟩ u) (some b) :=
  ⟨h.os, h.tape, h.output, by simpa [World.setCell] using h.size, fun k hk hn => (heap_setCell_other w _ k u (by intro e; subst e; exact hn rfl)).trans (h.block k hk hn)⟩
theorem grown_refl (w : World) (b : Option Nat) : w.grownBy w b := ⟨rfl, rfl, rfl, Nat.le_refl _, fun _ _ _ => rfl⟩
theorem grown_cell {a w : World} {b : Option Nat} (h : a.grownBy w b) {g o : Nat} {u : Value} (hg : some g ≠ b) (hc : a.cell? ⟨g, o, none⟩ = some u) : w.cell? ⟨g, o, none⟩ = some u :=
  h.cell (a := ⟨g, o, none⟩) hc hg
theorem layK_nth (W : List Int) (gi : Nat) (l : List Int) (k j : Nat) (hj : j < 2) : nth (layK W gi l k) j = nth W j := by
  induction k with
  | zero => rfl
  | succ k ih => rw [layK_succ]; unfold nth at ih ⊢; rw [List.getElem?_set_ne (by omega), List.getElem?_set_ne (by omega)]; exact ih
theorem layS_nth (W : List Int) (gi : Nat) (l : List Int) (j : Nat) (hj : j < 2) : nth (layS W gi l) j = nth W j := layK_nth W gi l _ j hj
/-- The winding of a table: its cells; whether it is one. -/
def w0 (g d : Int) : List Int := [g, d, 0, 0, 0, 0, 0, 0, 0, 0, 0, 0, 0, 0, 0, 0, 0, 0, 0, 0, 0, 0]
def windK (t : List (List Int)) (k : Nat) : List Int := (List.range k).foldl (fun W j => layS W j (t[j]?.getD [])) (w0 t.length (t[0]?.getD []).length)
theorem windK_succ (t : List (List Int)) (k : Nat) : windK t (k + 1) = layS (windK t k) k (t[k]?.getD []) := by simp [windK, List.range_succ]
theorem windK_length (t : List (List Int)) (k : Nat) : (windK t k).length = 22 := by
  induction k with
  | zero => rfl
  | succ k ih => rw [windK_succ, layS_length, ih]
theorem windK_nth1 (t : List (List Int)) (k : Nat) : nth (windK t k) 1 = (t[0]?.getD []).length := by
  induction k with
  | zero => rfl
  | succ k ih => rw [windK_succ, layS_nth _ _ _ _ (by omega), ih]
def windB (t : List (List Int)) : Bool := lettersB t.length && (sheetsB (t[0]?.getD []).length && t.all (colB (t[0]?.getD []).length))
def windW (t : List (List Int)) : List Int := if windB t then windK t t.length else w0 0 0
theorem windW_length (t : List (List Int)) : (windW t).length = 22 := by unfold windW; split; exact windK_length _ _; rfl
theorem windB_col (t : List (List Int)) (k : Nat) (l : List Int) (h : t[k]? = some l) (hc : colB (t[0]?.getD []).length l = false) : windB t = false := by
  have : t.all (colB (t[0]?.getD []).length) = false := List.all_eq_false.2 ⟨l, List.mem_of_getElem? h, by simp [hc]⟩
  simp [windB, this]
theorem take_all {α : Type} {p : α → Bool} (t : List α) (k : Nat) (l : α) (h : t[k]? = some l) (h1 : (t.take k).all p = true) (h2 : p l = true) : (t.take (k + 1)).all p = true := by
  obtain ⟨hk, rfl⟩ := List.getElem?_eq_some_iff.1 h
  rw [List.take_succ_eq_append_getElem hk, List.all_append, h1]; simp [h2]
theorem colB_parts (d : Int) (l : List Int) (h : colB d l = true) : (l.length : Int) = d ∧ l.all (hasB d) = true ∧ l.Nodup := by
  simpa [colB] using h
theorem hasB_5 (d : Int) (hd : d ≤ 5) (l : List Int) (h : l.all (hasB d) = true) : l.all (hasB 5) = true := by
  rw [List.all_eq_true] at h ⊢
  intro x hx; have := (hasB_iff _ _).1 (h x hx); exact (hasB_iff _ _).2 (by omega)
theorem ic_one (l : List Int) : (ic l).all (·.oneCell') = true := by
  rw [Array.all_eq_true_iff_forall_mem]; intro v hv; simp [ic] at hv; obtain ⟨x, _, rfl⟩ := hv; rfl
theorem below_grown {B : Nat} {a w w' : World} {b : Nat} (h : Below B a w) (hg : w.grownBy w' (some b)) (hB : B ≤ b) (hw : B ≤ w.heap.size) : Below B a w' :=
  h.grown hg hw (fun k e => by cases e; exact hB)
/-- A struct result in a block, a second one in a slot. -/
theorem results_row_tmp {P : Program} {fn : Func} {p u : Tmp} {ty : TypeId} (hr : fn.results = #[.cell p ty, .tmp u]) (tmps : Array Value) (w : World) (g : Nat) (t : TypeId) (cs : Array Value) (d : TypeDesc)
    (hp : tmps.getD p undef = .pointer (some ⟨g, 0, none⟩)) (hg : At w g t cs) (hu : P.underlying ty = some d) (hd : (match d with | .struct _ | .array _ _ => true | _ => false) = true)
    (hi : (P.info? ty).map (·.size) = some cs.size) : (results fn tmps).run P w = .ok (.tuple #[.agg cs, tmps.getD u undef]) w := by
  rw [results_cell_tmp hr, hp]
  simp only [asAddr, Sem.run_pure, Result.andThen_ok]
  rw [run_loadVar_row w g t ty cs (0, 0) d hg hu hd hi]
  simp only [Result.andThen_ok]
theorem RdI.block {w : World} {A : Option Addr} {c : Nat} {l : List Int} {n : Nat} (h : RdI w (.slice A n c) l) (hl : 0 < l.length) (a : Addr) (ha : A = some a) : a.block < w.heap.size := by
  obtain ⟨A', c', hv, _, hc⟩ := h
  cases hv
  obtain ⟨b, off, u, hb, hcell, _⟩ := hc 0 hl
  rw [ha] at hb; cases hb
  exact block_lt_of_cell hcell
theorem windB_yes (t : List (List Int)) (d : Int) (h1 : lettersB t.length = true) (hd : ((t[0]?.getD []).length : Int) = d) (h2 : sheetsB d = true) (h3 : t.all (colB d) = true) : windB t = true := by
  subst hd; simp [windB, h1, h2]; simpa using h3
/-- Where a letter, a word sends a sheet. -/
def stp (W : List Int) (s : Int) (c : UInt8) : Int := nth W (2 + (li c).toNat * 5 + s.toNat)
def snd (W : List Int) (s : Int) (l : List UInt8) : Int := l.foldl (stp W) s
theorem snd_snoc (W : List Int) (s : Int) (b : ByteArray) (k : Nat) (hk : k < b.size) : snd W s (b.data.toList.take (k + 1)) = stp W (snd W s (b.data.toList.take k)) b[k] := by
  rw [take_snoc b k hk]; simp [snd]
/-- A winding whose sheets all lie in 0 .. 4. -/
def wok (W : List Int) : Prop := W.length = 22 ∧ ∀ k, 2 ≤ k → k < 22 → 0 ≤ nth W k ∧ nth W k < 5
theorem stp_in (W : List Int) (hW : wok W) (s : Int) (c : UInt8) (hs : 0 ≤ s ∧ s < 5) (hc : 0 ≤ li c) : 0 ≤ stp W s c ∧ stp W s c < 5 := by
  have : li c ≤ 3 := by unfold li; split <;> (try split) <;> (try split) <;> (try split) <;> omega
  exact hW.2 _ (by omega) (by omega)
theorem li_le (c : UInt8) : li c ≤ 3 := by unfold li; split <;> (try split) <;> (try split) <;> (try split) <;> omega
theorem okL_li (g : Int) (c : UInt8) (h : okL g c = true) : 0 ≤ li c := by
  simp [okL] at h; unfold li; rcases h with h | h | ⟨_, h | h⟩ <;> subst h <;> decide
theorem snd_in (W : List Int) (hW : wok W) (s : Int) (hs : 0 ≤ s ∧ s < 5) : ∀ (l : List UInt8), (∀ c ∈ l, 0 ≤ li c) → 0 ≤ snd W s l ∧ snd W s l < 5 := by
  intro l
  induction l generalizing s with
  | nil => intro _; exact hs
  | cons c l ih => intro h; exact ih (stp W s c) (stp_in W hW s c hs (h c (by simp))) (fun x hx => h x (by simp [hx]))
end
section
open Go.RowKit
section
variable {P : Program}
theorem still_load_row {ops : Array Oper} {rest : List Oper} {o : Oper} {a : Act} {w : World} {Q : Act → Prop} (hgd : o.guard = none) (ty : TypeId) (x : Operand) (ho : o.op = .load ty x)
    (g : Nat) (hx : a.eval x = .pointer (some ⟨g, 0, none⟩)) (t : TypeId) (cs : Array Value) (d : TypeDesc) (hg : At w g t cs)
    (hu : P.underlying ty = some d) (hd : (match d with | .struct _ | .array _ _ => true | _ => false) = true) (hi : (P.info? ty).map (·.size) = some cs.size)
    (h : wpStill P ops w Q rest (a.put o.dst (.agg cs))) : wpStill P ops w Q (o :: rest) a := by
  refine wpStill_step (fun K hK => ?_)
  simp only [Region.wanted, hgd, if_true]
  unfold Oper.still execOp
  simp only [ho, hx, Instr.loadAt, Instr.sureAddr, Sem.run_bind, Sem.run_pure, Result.andThen_ok, run_loadVar_row w g t ty cs (0, 0) d hg hu hd hi]
  exact ⟨rfl, hK _ h⟩
/-- The cells of a block that has just been made, as the law of append asks for them. -/
theorem new_cells (w : World) (t : TypeId) (cs : List Value) (b : Nat) (hb : b = w.heap.size) : ∀ j u, cs[j]? = some u → (w.alloc (.cells cs.toArray t)).cell? ((⟨b, 0, none⟩ : Addr).add j) = some u := by
  intro j u h
  subst hb
  have hadd : (⟨w.heap.size, 0, none⟩ : Addr).add j = ⟨w.heap.size, j, none⟩ := by unfold Addr.add; split <;> simp_all
  rw [hadd, (At.new w t cs.toArray).cell]
  simpa using h
/-- What a slice owns it owns wherever all that lay is as it was. -/
theorem own_later {w w' : World} {base : Nat} {e : TypeId} {size : Nat} {v : Value} {n : Nat} {xs : List Value} (h : w.ownsRow base e size v n xs) (hb : Below w.heap.size w w') : w'.ownsRow base e size v n xs := by
  refine ⟨h.1, ?_⟩
  rcases h.2 with hn | ⟨g, cap, cur, rfl, hbg, hg, r⟩
  · exact .inl hn
  · exact .inr ⟨g, cap, cur, rfl, hbg, (hb.block g (Array.getElem?_eq_some_iff.1 hg).1).trans hg, r⟩
theorem own_ne {w : World} {g : Nat} {t : TypeId} {cs : Array Value} {base : Nat} {e : TypeId} {size n : Nat} {v : Value} {xs : List Value} (h : w.ownsRow base e size v n xs) (hg : At w g t cs) (hne : t ≠ e) : some g ≠ v.ownBlock := by
  rcases h.2 with ⟨rfl, _⟩ | ⟨g', cap, cur, rfl, _, hh, _⟩
  · simp [Value.ownBlock]
  · intro he
    obtain rfl : g = g' := by simpa [Value.ownBlock] using he
    unfold At at hg; rw [hg] at hh; cases hh; exact hne rfl
theorem own_set {w : World} {g o : Nat} {u : Value} {base : Nat} {e : TypeId} {size n : Nat} {v : Value} {xs : List Value} (h : w.ownsRow base e size v n xs) (hg : some g ≠ v.ownBlock) : (w.setCell ⟨g, o, none⟩ u).ownsRow base e size v n xs :=
  ownsRow_setCell_other h (a := ⟨g, o, none⟩) (fun e => hg e.symm) u
/-- A slice that owns an element at least is written out. -/
theorem own_form {w : World} {base : Nat} {e : TypeId} {size n : Nat} {v : Value} {xs : List Value} (h : w.ownsRow base e size v n xs) (hn : 0 < n) :
    ∃ g cap, v = .slice (some ⟨g, 0, none⟩) n cap ∧ base ≤ g ∧ g < w.heap.size ∧ n ≤ cap ∧ cap ≤ maxLen ∧ ∀ j u, xs[j]? = some u → w.cell? ⟨g, j, none⟩ = some u := by
  rcases h.2 with ⟨_, h0⟩ | ⟨g, cap, cur, rfl, hb, hg, hc, hm, hs, ht⟩
  · omega
  · refine ⟨g, cap, rfl, hb, (Array.getElem?_eq_some_iff.1 hg).1, hc, hm, fun j u hu => ?_⟩
    rw [cell_of_row w g j cur e (0, 0) hg]
    rw [← ht, List.getElem?_take] at hu
    split at hu
    · simpa using hu
    · cases hu
end
theorem own_base {w : World} {base : Nat} {e : TypeId} {size n : Nat} {v : Value} {xs : List Value} (h : w.ownsRow base e size v n xs) : ∀ g, v.ownBlock = some g → base ≤ g := by
  rcases h.2 with ⟨rfl, _⟩ | ⟨g, cap, cur, rfl, hb, _⟩
  · intro g hg; simp [Value.ownBlock] at hg
  · intro g' hg'
    obtain rfl : g = g' := by simpa [Value.ownBlock] using hg'
    exact hb
end
section
open Go.RowKit
/-- A rule sends every sheet below d to itself; all rules do. -/
def krB (W : List Int) (d : Nat) (r : ByteArray) : Bool := (List.range d).all fun s => decide (snd W (s : Int) r.data.toList = s)
def keepsB (W : List Int) (rules : List ByteArray) : Bool := rules.all (krB W (nth W 1).toNat)
theorem range_snoc {p : Nat → Bool} (k : Nat) (h : (List.range k).all p = true) (h' : p k = true) : (List.range (k + 1)).all p = true := by
  rw [List.range_succ, List.all_append, h]; simp [h']
theorem krB_no (W : List Int) (d : Nat) (r : ByteArray) (s : Nat) (hs : s < d) (h : snd W (s : Int) r.data.toList ≠ s) : krB W d r = false :=
  List.all_eq_false.2 ⟨s, by simpa using hs, by simpa using h⟩
theorem keepsB_no (W : List Int) (rules : List ByteArray) (k : Nat) (r : ByteArray) (hk : rules[k]? = some r) (h : krB W (nth W 1).toNat r = false) : keepsB W rules = false :=
  List.all_eq_false.2 ⟨r, List.mem_of_getElem? hk, by simp [h]⟩
def wordsOk (rules : List ByteArray) : Prop := ∀ r ∈ rules, r.size ≤ maxLen ∧ ∀ c ∈ r.data.toList, 0 ≤ li c
/-- A presentation. -/
def groupB (g : Int) (rules : List ByteArray) : Bool := lettersB g && (decide (rules.length ≤ 6) && rules.all fun r => wordB g r.data.toList)
theorem groupB_no (g : Int) (rules : List ByteArray) (k : Nat) (r : ByteArray) (hk : rules[k]? = some r) (h : wordB g r.data.toList = false) : groupB g rules = false := by
  have : (rules.all fun r => wordB g r.data.toList) = false := List.all_eq_false.2 ⟨r, List.mem_of_getElem? hk, by simp [h]⟩
  simp [groupB, this]
theorem groupB_yes (g : Int) (rules : List ByteArray) (h1 : lettersB g = true) (h2 : rules.length ≤ 6) (h3 : (rules.all fun r => wordB g r.data.toList) = true) : groupB g rules = true := by
  unfold groupB; rw [h1, h3]; simp [h2]
theorem groupB_parts (g : Int) (rules : List ByteArray) (h : groupB g rules = true) : (g = 1 ∨ g = 2) ∧ rules.length ≤ 6 ∧ wordsOk rules := by
  simp only [groupB, Bool.and_eq_true, decide_eq_true_eq] at h
  obtain ⟨h1, h2, h3⟩ := h
  refine ⟨by simpa [lettersB] using h1, h2, fun r hr => ?_⟩
  have := List.all_eq_true.1 h3 r hr
  simp only [wordB, Bool.and_eq_true, decide_eq_true_eq] at this
  refine ⟨by have := this.1; simp at this; unfold maxLen; omega, fun c hc => okL_li g c (List.all_eq_true.1 this.2 c hc)⟩
def szOk (rules : List ByteArray) : Prop := ∀ r ∈ rules, r.size ≤ maxLen
end
section
open Go.RowKit
/-- What a letter adds to the exponents. -/
def ea (c : UInt8) : Int := if c = 97 then 1 else if c = 65 then -1 else 0
def eb (c : UInt8) : Int := if c = 98 then 1 else if c = 66 then -1 else 0
def exA (l : List UInt8) : Int := (l.map ea).sum
def exB (l : List UInt8) : Int := (l.map eb).sum
theorem exA_snoc (s : ByteArray) (k : Nat) (h : k < s.size) : exA (s.data.toList.take (k + 1)) = exA (s.data.toList.take k) + ea s[k] := by rw [take_snoc s k h]; simp [exA]
theorem exB_snoc (s : ByteArray) (k : Nat) (h : k < s.size) : exB (s.data.toList.take (k + 1)) = exB (s.data.toList.take k) + eb s[k] := by rw [take_snoc s k h]; simp [exB]
theorem ea_le (c : UInt8) : -1 ≤ ea c ∧ ea c ≤ 1 := by unfold ea; split <;> (try split) <;> omega
theorem eb_le (c : UInt8) : -1 ≤ eb c ∧ eb c ≤ 1 := by unfold eb; split <;> (try split) <;> omega
theorem exA_le : ∀ (l : List UInt8), -(l.length : Int) ≤ exA l ∧ exA l ≤ l.length
  | [] => by simp [exA]
  | c :: l => by have h := exA_le l; have := ea_le c; simp only [exA, List.map_cons, List.sum_cons, List.length_cons] at h ⊢; omega
theorem exB_le : ∀ (l : List UInt8), -(l.length : Int) ≤ exB l ∧ exB l ≤ l.length
  | [] => by simp [exB]
  | c :: l => by have h := exB_le l; have := eb_le c; simp only [exB, List.map_cons, List.sum_cons, List.length_cons] at h ⊢; omega
theorem gcd_step (x y : Int) : Int.gcd y (x.tmod y) = Int.gcd x y := by
  unfold Int.gcd
  rw [Int.natAbs_tmod, Nat.gcd_comm x.natAbs, Nat.gcd_comm y.natAbs]
  exact (Nat.gcd_rec y.natAbs x.natAbs).symm
theorem tmod_small (x y : Int) (hy : y ≠ 0) : (x.tmod y).natAbs < y.natAbs := by
  rw [Int.natAbs_tmod]; exact Nat.mod_lt _ (by omega)
/-- The greatest common divisors of the exponents, and of the determinants. -/
def gE (a : Int) (r : ByteArray) : Int := Int.gcd (Int.gcd a (exA r.data.toList)) (exB r.data.toList)
def det (r q : ByteArray) : Int := exA r.data.toList * exB q.data.toList - exB r.data.toList * exA q.data.toList
def gD (a : Int) (r q : ByteArray) : Int := Int.gcd a (det r q)
def dE (rules : List ByteArray) : Int := rules.foldl gE 0
def dDi (a : Int) (r : ByteArray) (qs : List ByteArray) : Int := qs.foldl (fun a q => gD a r q) a
def dD (rules : List ByteArray) (k : Nat) : Int := (List.range k).foldl (fun a i => dDi a (rules[i]?.getD ByteArray.empty) (rules.take i)) 0
theorem byte_ne (c d : UInt8) (n : Int) (hn : (d.toNat : Int) = n) (h : c ≠ d) : ((c.toNat : Int) == n) = false := by
  rw [beq_eq_false_iff_ne, ← hn]
  intro e
  exact h (UInt8.toNat_inj.1 (by omega))
theorem byte_is (c d : UInt8) (n : Int) (hn : (d.toNat : Int) = n) (h : c = d) : ((c.toNat : Int) == n) = true := by
  rw [beq_iff_eq, ← hn, h]
theorem gcd_le (a b : Int) (N : Int) (h1 : -N ≤ a) (h2 : a ≤ N) (h3 : -N ≤ b) (h4 : b ≤ N) : 0 ≤ (Int.gcd a b : Int) ∧ (Int.gcd a b : Int) ≤ N := by
  refine ⟨by omega, ?_⟩
  by_cases ha : a = 0
  · subst ha; simp [Int.gcd]; omega
  · have : Int.gcd a b ≤ a.natAbs := Nat.le_of_dvd (by omega) (Int.gcd_dvd_natAbs_left a b)
    omega
theorem dE_snoc (rules : List ByteArray) (k : Nat) (r : ByteArray) (h : rules[k]? = some r) : dE (rules.take (k + 1)) = gE (dE (rules.take k)) r := by
  obtain ⟨hk, rfl⟩ := List.getElem?_eq_some_iff.1 h
  unfold dE; rw [List.take_succ_eq_append_getElem hk, List.foldl_append]; rfl
theorem dD_snoc (rules : List ByteArray) (k : Nat) (r : ByteArray) (h : rules[k]? = some r) : dD rules (k + 1) = dDi (dD rules k) r (rules.take k) := by
  simp [dD, List.range_succ, h]
theorem dDi_snoc (a : Int) (r : ByteArray) (qs : List ByteArray) (k : Nat) (q : ByteArray) (h : qs[k]? = some q) : dDi a r (qs.take (k + 1)) = gD (dDi a r (qs.take k)) r q := by
  obtain ⟨hk, rfl⟩ := List.getElem?_eq_some_iff.1 h
  unfold dDi; rw [List.take_succ_eq_append_getElem hk, List.foldl_append]; rfl
theorem ex_small (r : ByteArray) (h : r.size ≤ 30) : (-30 ≤ exA r.data.toList ∧ exA r.data.toList ≤ 30) ∧ (-30 ≤ exB r.data.toList ∧ exB r.data.toList ≤ 30) := by
  have h1 := exA_le r.data.toList
  have h2 := exB_le r.data.toList
  have : r.data.toList.length ≤ 30 := by simpa using h
  omega
theorem mul_small (a b : Int) (h1 : -30 ≤ a) (h2 : a ≤ 30) (h3 : -30 ≤ b) (h4 : b ≤ 30) : -900 ≤ a * b ∧ a * b ≤ 900 := by
  have ha : a.natAbs ≤ 30 := by omega
  have hb : b.natAbs ≤ 30 := by omega
  have := Nat.mul_le_mul ha hb
  rw [← Int.natAbs_mul] at this
  omega
end
end Go.Proofs.YteffkcnlipdgaaaDoor
