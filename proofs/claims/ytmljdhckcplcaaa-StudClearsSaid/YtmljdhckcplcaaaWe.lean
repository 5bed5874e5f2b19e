/- The walk of the reference's All. -/
import Derived.Test.YtmljdhckcplcaaaWf
import Derived.Test.YtmljdhckcplcaaaWa
import Derived.Test.YtmljdhckcplcaaaVo
import Derived.Test.YtmljdhckcplcaaaVf
import Derived.Maps.AppendAt
import Derived.Deep.Cut
namespace Go.Proofs.Ytmljdhckcplcaaa
open Go.RowKit Go.Shelf
set_option linter.unusedVariables false
set_option linter.unusedSimpArgs false

theorem below_grown2 {B S : Nat} {a w w' : World} {row : Option Nat} (h : Below B a w) (hg : w.grownBy w' row) (hB : ∀ g, row = some g → S ≤ g) (hS : B ≤ S) (hw : B ≤ w.heap.size) : Below B a w' := h.grown hg hw (fun g e => Nat.le_trans hS (hB g e))
theorem infoRow : (Try.prog.info? 22).map (fun i => (i.zero, i.size, i.bytes)) = some (some (.slice none 0 0), 1, 24) := by kernel_rfl
theorem own_lt' {w : World} {base : Nat} {e : TypeId} {size n : Nat} {v : Value} {xs : List Value} (h : w.ownsRow base e size v n xs) : ∀ g, v.ownBlock = some g → g < w.heap.size := by
  rcases h.2 with ⟨rfl, _⟩ | ⟨g, cap, cur, rfl, hb, hg, _⟩
  · intro g hg; simp [Value.ownBlock] at hg
  · intro g' hg'
    obtain rfl : g = g' := by simpa [Value.ownBlock] using hg'
    exact (Array.getElem?_eq_some_iff.1 hg).1
/-- A list of rows that is owned: the rows lie in blocks of their own. -/
def OR (W : Nat) (Z : World) (u : Value) (xs : List (List Int)) : Prop :=
  ∃ us : List Value, us.length = xs.length ∧ Z.ownsRow W 22 1 u xs.length us ∧ ∀ (j : Nat) (y : Value), us[j]? = some y → ∃ l, xs[j]? = some l ∧ RdIB (fun r => W ≤ r ∧ some r ≠ u.ownBlock) Z y l
theorem OR.nil (W : Nat) (Z : World) : OR W Z (.slice none 0 0) [] := ⟨[], rfl, World.ownsRow_nil _ _ _ _, fun j y h => by simp at h⟩
theorem OR.keep {W : Nat} {Z Z' : World} {u : Value} {xs : List (List Int)} (h : OR W Z u xs) (hk : Keeps Z Z') : OR W Z' u xs := by
  obtain ⟨us, h1, h2, h3⟩ := h
  refine ⟨us, h1, own_later h2 hk, fun j y hy => ?_⟩
  obtain ⟨l, h4, h5⟩ := h3 j y hy
  exact ⟨l, h4, h5.to (Holds.of_keeps hk (fun r => W ≤ r ∧ some r ≠ u.ownBlock)) (fun b _ h => ⟨h, h⟩)⟩
theorem OR.step {W : Nat} {Z w2 w3 : World} {u v2 : Value} {xs : List (List Int)} {us : List Value} {l2 : List Int} {g3 n cap : Nat} (h1 : us.length = xs.length)
    (h3 : ∀ (j : Nat) (y : Value), us[j]? = some y → ∃ l, xs[j]? = some l ∧ RdIB (fun r => W ≤ r ∧ some r ≠ u.ownBlock) Z y l) (hlt : ∀ g, u.ownBlock = some g → g < Z.heap.size) (hW : W ≤ Z.heap.size)
    (hk : Keeps Z w2) (hr2 : RdIB (fun r => Z.heap.size ≤ r) w2 v2 l2) (o : Obj) (hg : (w2.alloc o).grownBy w3 u.ownBlock) (hl : u.ownBlock = some g3 ∨ g3 = w2.heap.size + 1) :
    ∀ (j : Nat) (y : Value), (us ++ [v2])[j]? = some y → ∃ l, (xs ++ [l2])[j]? = some l ∧ RdIB (fun r => W ≤ r ∧ some r ≠ (Value.slice (some ⟨g3, 0, none⟩) n cap).ownBlock) w3 y l := by
  intro j x hx
  have hob : (Value.slice (some ⟨g3, 0, none⟩) n cap).ownBlock = some g3 := rfl
  rw [hob]
  have hh3 : Holds (fun r => some r ≠ u.ownBlock) w2 w3 := ((Holds.refl _ w2).alloc o).grown hg (fun r hr hk => hk hr.symm)
  by_cases hj : j < us.length
  · rw [List.getElem?_append_left hj] at hx
    obtain ⟨l, hl1, hl2⟩ := h3 j x hx
    refine ⟨l, by rw [List.getElem?_append_left (by omega)]; exact hl1, hl2.to (K := fun r => some r ≠ u.ownBlock) ((Holds.of_keeps hk _).trans hh3) (fun b hb ⟨q1, q2⟩ => ⟨q2, q1, fun e => ?_⟩)⟩
    rcases hl with hl | hl
    · exact q2 (e.trans hl.symm)
    · have := hk.size; cases e; omega
  · have hjk : j = us.length := by have := (List.getElem?_eq_some_iff.1 hx).1; simp at this; omega
    subst hjk
    rw [List.getElem?_append_right (by omega), Nat.sub_self] at hx
    cases hx
    refine ⟨l2, by rw [h1, List.getElem?_append_right (by omega), Nat.sub_self]; rfl, hr2.to (K := fun r => some r ≠ u.ownBlock) hh3 (fun b hb q => ⟨fun e => ?_, Nat.le_trans hW q, fun e => ?_⟩)⟩
    · have := hlt b e.symm; omega
    · rcases hl with hl | hl
      · have := hlt g3 hl; cases e; omega
      · cases e; omega
theorem OR.read {W : Nat} {Z : World} {u : Value} {xs : List (List Int)} (h : OR W Z u xs) (hm : xs.length ≤ maxLen) : RdT Z u xs := by
  obtain ⟨us, h1, h2, h3⟩ := h
  exact RdB.rd (own_list (P := fun i x => ∃ l, xs[i]? = some l ∧ RdI Z x l) h2 hm (fun i x hx => by
    obtain ⟨l, h1, h2⟩ := h3 i x hx
    exact ⟨l, h1, h2.rd⟩)) (fun _ _ h => h)
/-- What is read is appended to nil: a row of one's own. -/
theorem wpList_append_rd {ops : Array Oper} {rest : List Oper} {o : Oper} {a : Act} {w : World} {Q : Exit → Act → World → Prop} (hgd : o.guard = none) (s x : Operand)
    (ho : o.op = .call { callee := .builtin .append, args := #[s, x], argTypes := #[22, 22] }) (hs : a.eval s = .slice none 0 0) (v : Value) (l : List Int) (hx : a.eval x = v) (hv : RdI w v l) (hlen : l.length ≤ 1000)
    (h : ∀ v' w', w'.ownsRow w.heap.size 3 1 v' l.length (l.map (Value.int .i64)) → Keeps w w' → wpList Try.prog ops Q rest (a.put o.dst v') w') : wpList Try.prog ops Q (o :: rest) a w := by
  obtain ⟨i0, hi, hz0, hz1, hz2⟩ := info_parts infoI
  obtain ⟨A, c, rfl, hm, hcs⟩ := hv
  by_cases h0 : l.length = 0
  · obtain rfl := List.eq_nil_of_length_eq_zero h0
    exact wpList_append_none hgd s x 22 ho 3 i0 Try.underlying22 hi hs A c hx (h _ _ (World.ownsRow_nil _ _ _ _) (Below.refl _ _))
  · obtain ⟨b, off, u0, rfl, _, _⟩ := hcs 0 (by omega)
    refine wpList_append_own w hgd s x 22 ho w.heap.size 3 i0 (.int .i64 0) 1 8 Try.underlying22 hi hz0 hz1 hz2 rfl (by decide) _ 0 [] hs (World.ownsRow_nil _ _ _ _) ⟨b, off, none⟩ l.length c (l.map (Value.int .i64)) hx (by simp) (fun j u hu => ?_)
      (fun u hu => by obtain ⟨x, _, rfl⟩ := List.mem_map.1 hu; rfl) (by unfold maxLen; omega) (by omega) (Nat.le_refl _) ?_
    · have hj := (List.getElem?_eq_some_iff.1 hu).1
      rw [List.length_map] at hj
      obtain ⟨b', o', y, e1, e2, rfl⟩ := hcs j hj
      cases e1
      rw [show ((⟨b, off, none⟩ : Addr).add j) = ⟨b, off + j, none⟩ from by unfold Addr.add; split <;> simp_all, e2, ← hu]
      simp [nth, hj]
    · intro v' w' ho hg _
      rw [Nat.zero_add, List.nil_append] at ho
      exact h v' w' ho ((Below.refl _ w).grown hg (Nat.le_refl _) (fun r hr => by simp [Value.ownBlock] at hr))

def stepP (n : Nat) (l : List Int) (x : Nat) : List (List Int) := ((List.range x).map fun s : Nat => l ++ [(s : Int)]).filter (goodB n)
theorem stepP_yes {n : Nat} {l : List Int} {x : Nat} (h : goodB n (l ++ [(x : Int)]) = true) : stepP n l (x + 1) = stepP n l x ++ [l ++ [(x : Int)]] := by simp [stepP, List.range_succ, h]
theorem stepP_no {n : Nat} {l : List Int} {x : Nat} (h : goodB n (l ++ [(x : Int)]) = false) : stepP n l (x + 1) = stepP n l x := by simp [stepP, List.range_succ, h]
theorem stepP_len (n : Nat) (l : List Int) (x : Nat) : (stepP n l x).length ≤ x := Nat.le_trans (List.length_filter_le _ _) (by simp)
theorem lvl_len (n : Nat) : ∀ i, (lvl n i).length ≤ n ^ i
  | 0 => by simp [lvl]
  | i + 1 => by
    have h := length_flatMap_le (stepL n) n (lvl n i) (fun x _ => stepP_len n x n)
    have := Nat.mul_le_mul_right n (lvl_len n i)
    show ((lvl n i).flatMap (stepL n)).length ≤ _
    rw [Nat.pow_succ]
    omega
theorem prev_len (n : Nat) (xs : List (List Int)) (q : Nat) : ((xs.take q).flatMap (stepL n)).length ≤ q * n := by
  refine Nat.le_trans (length_flatMap_le (stepL n) n (xs.take q) (fun x _ => stepP_len n x n)) (Nat.mul_le_mul_right n ?_)
  rw [List.length_take]; omega
theorem prev_snoc (n : Nat) (xs : List (List Int)) (q : Nat) (l : List Int) (h : xs[q]? = some l) : (xs.take (q + 1)).flatMap (stepL n) = (xs.take q).flatMap (stepL n) ++ stepP n l n := by
  obtain ⟨hq, rfl⟩ := List.getElem?_eq_some_iff.1 h
  rw [List.take_succ_eq_append_getElem hq, List.flatMap_append, List.flatMap_singleton]
  rfl
theorem goodB_has16 {n : Nat} (hn : n ≤ 16) {l : List Int} (h : rowsB n l = true) : l.all (hasB 16) = true := by
  unfold rowsB at h
  rw [Bool.and_eq_true] at h
  refine List.all_eq_true.2 fun x hx => ?_
  have := (hasB_iff _ _).1 (List.all_eq_true.1 h.1 x hx)
  exact (hasB_iff _ _).2 ⟨this.1, by omega⟩
end Go.Proofs.Ytmljdhckcplcaaa
