/- A table whose rows grow, each in a block of its own; the rows of the differences. -/
import Derived.Test.YtmljdhckcplcaaaSi
import Derived.Test.YtmljdhckcplcaaaSg
namespace Go.Proofs.Ytmljdhckcplcaaa
open Go.RowKit Go.Shelf
set_option linter.unusedVariables false
set_option linter.unusedSimpArgs false

theorem infoRow9 : (Try.prog.info? 22).map (fun i => (i.zero, i.size, i.bytes)) = some (some (.slice none 0 0), 1, 24) := by kernel_rfl
theorem madeRows (n : Nat) : madeCells #[Value.slice none 0 0] (n * 1) = (List.replicate n (Value.slice none 0 0)).toArray := by
  apply Array.toList_inj.1
  rw [Nat.mul_one, toList_madeCells_one]
theorem makeT (m : Int) (n : Nat) (h : m = n) (hn : n ≤ 1000) (w : World) : (Instr.makeSlice 28 (.int .i64 m) (.int .i64 m)).run Try.prog w = .ok (.slice (some ⟨w.heap.size, 0, none⟩) n n) (w.alloc (.cells (List.replicate n (Value.slice none 0 0)).toArray 22)) := by
  obtain ⟨i0, hi, hz0, hz1, hz2⟩ := info_parts infoRow9
  subst h
  have := run_makeSlice (P := Try.prog) (w := w) 28 22 i0 (.slice none 0 0) Try.underlying28 hi hz0 .i64 .i64 n n (by omega) (by omega) (by rw [hz1]; omega) (by rw [hz2]; omega) (by omega)
  rw [this, hz1, Int.toNat_natCast]
  show Result.ok _ (w.alloc (.cells (madeCells #[Value.slice none 0 0] (n * 1)) _)) = _
  rw [madeRows]
theorem own_in {w : World} {base : Nat} {e : TypeId} {size n : Nat} {v : Value} {xs : List Value} (h : w.ownsRow base e size v n xs) : ∀ g, v.ownBlock = some g → g < w.heap.size := by
  rcases h.2 with ⟨rfl, _⟩ | ⟨g, cap, cur, rfl, hb, hg, _⟩
  · intro g hg; simp [Value.ownBlock] at hg
  · intro g' hg'
    obtain rfl : g = g' := by simpa [Value.ownBlock] using hg'
    exact (Array.getElem?_eq_some_iff.1 hg).1
/-- The table T holds the rows us, which read ls; their blocks are named by M, and no two rows share one. -/
structure TR (S : Nat) (M : Nat → Prop) (Z : World) (T : Nat) (us : List Value) (ls : List (List Int)) : Prop where
  len : us.length = ls.length
  at_ : At Z T 22 us.toArray
  row : ∀ (j : Nat) (y : Value), us[j]? = some y → ∃ l, ls[j]? = some l ∧ Z.ownsRow S 3 1 y l.length (l.map (Value.int .i64))
  named : ∀ (j : Nat) (y : Value) (g : Nat), us[j]? = some y → y.ownBlock = some g → M g
  own : ∀ (i j : Nat) (y z : Value) (g : Nat), us[i]? = some y → us[j]? = some z → y.ownBlock = some g → z.ownBlock = some g → i = j
theorem TR.holds {S : Nat} {M K : Nat → Prop} {Z Z' : World} {T : Nat} {us : List Value} {ls : List (List Int)} (h : TR S M Z T us ls) (hh : Holds K Z Z') (hT : K T) (hM : ∀ r, M r → K r) : TR S M Z' T us ls :=
  ⟨h.len, h.at_.holds hh hT, fun j y hy => by
    obtain ⟨l, h1, h2⟩ := h.row j y hy
    exact ⟨l, h1, own_holds h2 hh (fun g hg => hM g (h.named j y g hy hg))⟩, h.named, h.own⟩
theorem TR.nil (S : Nat) (Z : World) (T n : Nat) (ha : At Z T 22 (Array.replicate n (Value.slice none 0 0))) : TR S (fun _ => False) Z T (List.replicate n (Value.slice none 0 0)) (List.replicate n []) := by
  have hr : ∀ (j : Nat) (y : Value), (List.replicate n (Value.slice none 0 0))[j]? = some y → y = .slice none 0 0 ∧ j < n := fun j y hy => by
    rw [List.getElem?_replicate] at hy
    split at hy
    · exact ⟨(Option.some.inj hy).symm, by assumption⟩
    · cases hy
  refine ⟨by simp, by rw [List.toArray_replicate]; exact ha, fun j y hy => ?_, fun j y g hy hg => ?_, fun i j y z g hy hz hg _ => ?_⟩
  · obtain ⟨rfl, hj⟩ := hr j y hy
    exact ⟨[], by simp [hj], World.ownsRow_nil _ _ _ _⟩
  · obtain ⟨rfl, _⟩ := hr j y hy
    simp [Value.ownBlock] at hg
  · obtain ⟨rfl, _⟩ := hr i y hy
    simp [Value.ownBlock] at hg
theorem TR.step {S : Nat} {M M' : Nat → Prop} {Z Z' : World} {T d : Nat} {us : List Value} {ls : List (List Int)} {y v : Value} {xs zs : List Int} (h : TR S M Z T us ls) (hy : us[d]? = some y) (hx : ls[d]? = some xs)
    (hh : Holds (fun r => r ≠ T ∧ some r ≠ y.ownBlock) Z Z') (hT : At Z' T 22 (us.set d v).toArray) (ho : Z'.ownsRow S 3 1 v zs.length (zs.map (Value.int .i64)))
    (hv : ∀ g, v.ownBlock = some g → y.ownBlock = some g ∨ Z.heap.size ≤ g) (hM : ∀ r, M r → r < Z.heap.size → M' r) (hN : ∀ r, Z.heap.size ≤ r → r < Z'.heap.size → M' r) : TR S M' Z' T (us.set d v) (ls.set d zs) := by
  have hd := (List.getElem?_eq_some_iff.1 hy).1
  have hdl : d < ls.length := by rw [← h.len]; exact hd
  have hg1 : ∀ (j : Nat) (u : Value) (g : Nat), us[j]? = some u → u.ownBlock = some g → g < Z.heap.size ∧ g ≠ T := fun j u g hu hg => by
    obtain ⟨l, h1, h2⟩ := h.row j u hu
    exact ⟨own_in h2 g hg, fun e => own_ne h2 h.at_ (by decide) (by rw [← e, hg])⟩
  have hc : ∀ (j : Nat) (u : Value), (us.set d v)[j]? = some u → (j = d ∧ u = v) ∨ (j ≠ d ∧ us[j]? = some u) := fun j u hu => by
    by_cases e : j = d
    · subst e
      rw [List.getElem?_set_self hd] at hu
      exact .inl ⟨rfl, (Option.some.inj hu).symm⟩
    · rw [List.getElem?_set_ne (fun e' => e e'.symm)] at hu
      exact .inr ⟨e, hu⟩
  have hnew : ∀ (j : Nat) (u : Value) (g : Nat), j ≠ d → us[j]? = some u → u.ownBlock = some g → v.ownBlock = some g → False := fun j u g hj hu hg hvg => by
    rcases hv g hvg with e | e
    · exact hj (h.own j d u y g hu hy hg e)
    · have := (hg1 j u g hu hg).1; omega
  refine ⟨by simp [h.len], hT, fun j u hu => ?_, fun j u g hu hg => ?_, fun i j u z g hu hz hg hk => ?_⟩
  · rcases hc j u hu with ⟨rfl, rfl⟩ | ⟨hj, hu⟩
    · exact ⟨zs, by rw [List.getElem?_set_self hdl], ho⟩
    · obtain ⟨l, h1, h2⟩ := h.row j u hu
      refine ⟨l, by rw [List.getElem?_set_ne (fun e' => hj e'.symm)]; exact h1, own_holds h2 hh (fun g hg => ⟨(hg1 j u g hu hg).2, fun e => hj (h.own j d u y g hu hy hg e.symm)⟩)⟩
  · rcases hc j u hu with ⟨rfl, rfl⟩ | ⟨hj, hu⟩
    · rcases hv g hg with e | e
      · exact hM g (h.named j y g hy e) (hg1 j y g hy e).1
      · exact hN g e (own_in ho g hg)
    · exact hM g (h.named j u g hu hg) (hg1 j u g hu hg).1
  · rcases hc i u hu with ⟨rfl, rfl⟩ | ⟨hi, hu⟩ <;> rcases hc j z hz with ⟨rfl, rfl⟩ | ⟨hj, hz⟩
    · rfl
    · exact (hnew j z g hj (by assumption) hk hg).elim
    · exact (hnew i u g hi (by assumption) hg hk).elim
    · exact h.own i j u z g hu hz hg hk
theorem TR.read {S : Nat} {M : Nat → Prop} {Z : World} {T : Nat} {us : List Value} {ls : List (List Int)} (h : TR S M Z T us ls) (hm : ls.length ≤ 1000) (hl : ∀ l ∈ ls, l.length ≤ 1000) (c : Nat) : RdT Z (.slice (some ⟨T, 0, none⟩) ls.length c) ls := by
  refine ⟨_, _, rfl, by unfold maxLen; omega, fun k hk => ?_⟩
  have hk' : k < us.length := by rw [h.len]; exact hk
  have hu := List.getElem?_eq_getElem hk'
  obtain ⟨l, h1, h2⟩ := h.row k _ hu
  refine ⟨T, 0, us[k], rfl, by rw [Nat.zero_add, h.at_.cell]; simp, l, h1, ?_⟩
  have := hl l (List.mem_of_getElem? h1)
  exact (RdB.rd (own_list (P := fun i x => x = .int .i64 (nth l i)) h2 (by unfold maxLen; omega) (fun i x hx => by
    rw [List.getElem?_map] at hx
    obtain ⟨z, hz, rfl⟩ := Option.map_eq_some_iff.1 hx
    simp [nth, hz])) (fun _ _ h => h))

/-- The differences over the distance d + 1 among the pairs ps. -/
def dstB (d : Nat) (p : Nat × Nat) : Bool := decide (p.2 = p.1 + (d + 1))
def dif (l : List Int) (p : Nat × Nat) : Int := stp2 l p.1 p.2
def rowT (l : List Int) (ps : List (Nat × Nat)) (d : Nat) : List Int := (ps.filter (dstB d)).map (dif l)
def triK (l : List Int) (k : Nat) : List (List Int) := (List.range (l.length - 1)).map (rowT l ((prs l.length).take k))
def triL (l : List Int) : List (List Int) := (List.range (l.length - 1)).map fun d => (List.range (l.length - 1 - d)).map fun i => stp2 l i (i + (d + 1))
theorem triK_zero (l : List Int) : triK l 0 = List.replicate (l.length - 1) [] := by
  unfold triK
  rw [List.take_zero]
  apply List.ext_getElem (by simp)
  intro i h1 h2
  simp [rowT]
theorem triK_len (l : List Int) (k : Nat) : (triK l k).length = l.length - 1 := by simp [triK]
theorem triK_succ (l : List Int) (k d : Nat) (p : Nat × Nat) (hp : (prs l.length)[k]? = some p) (hd : p.2 = p.1 + (d + 1)) (hn : d < l.length - 1) :
    (triK l k)[d]? = some (rowT l ((prs l.length).take k) d) ∧ triK l (k + 1) = (triK l k).set d (rowT l ((prs l.length).take k) d ++ [dif l p]) := by
  refine ⟨by simp [triK, hn], ?_⟩
  have ht : (prs l.length).take (k + 1) = (prs l.length).take k ++ [p] := by
    obtain ⟨h1, rfl⟩ := List.getElem?_eq_some_iff.1 hp
    exact List.take_succ_eq_append_getElem h1
  apply List.ext_getElem (by simp [triK])
  intro i h1 h2
  have hi : i < l.length - 1 := by simpa [triK] using h1
  by_cases e : i = d
  · subst e
    rw [List.getElem_set_self]
    simp only [triK, List.getElem_map, List.getElem_range, rowT, ht, List.filter_append, List.map_append]
    rw [List.filter_cons_of_pos (by simp [dstB, hd])]
    simp
  · rw [List.getElem_set_ne (fun h => e h.symm)]
    simp only [triK, List.getElem_map, List.getElem_range, rowT, ht, List.filter_append, List.map_append]
    rw [List.filter_cons_of_neg (by simp [dstB, hd]; omega)]
    simp
theorem rowP_dst (n i d : Nat) : ∀ (m j : Nat), n - j = m → (j ≤ i + (d + 1) → (rowP n i j).filter (dstB d) = if i + (d + 1) < n then [(i, i + (d + 1))] else []) ∧ (i + (d + 1) < j → (rowP n i j).filter (dstB d) = [])
  | 0, j, h => by
    rw [rowP_nil n i j (by omega)]
    exact ⟨fun h1 => by rw [if_neg (by omega)]; rfl, fun _ => rfl⟩
  | m + 1, j, h => by
    obtain ⟨h1, h2⟩ := rowP_dst n i d m (j + 1) (by omega)
    rw [rowP_cons n i j (by omega)]
    refine ⟨fun hj => ?_, fun hj => ?_⟩
    · by_cases e : j = i + (d + 1)
      · subst e
        rw [List.filter_cons_of_pos (by simp [dstB]), h2 (by omega), if_pos (by omega)]
      · rw [List.filter_cons_of_neg (by simp [dstB]; omega), h1 (by omega)]
    · rw [List.filter_cons_of_neg (by simp [dstB]; omega), h2 (by omega)]
theorem prsF_dst (n d : Nat) : ∀ (m i : Nat), n - i = m → (prsF n i).filter (dstB d) = (List.range' i (n - 1 - d - i)).map fun x => (x, x + (d + 1))
  | 0, i, h => by
    rw [prsF_nil n i (by omega), show n - 1 - d - i = 0 by omega]; rfl
  | m + 1, i, h => by
    rw [prsF_cons n i (by omega), List.filter_append, (rowP_dst n i d _ (i + 1) rfl).1 (by omega), prsF_dst n d m (i + 1) (by omega)]
    by_cases e : i + (d + 1) < n
    · rw [if_pos e, show n - 1 - d - i = (n - 1 - d - (i + 1)) + 1 by omega, List.range'_succ]
      rfl
    · rw [if_neg e, show n - 1 - d - i = 0 by omega, show n - 1 - d - (i + 1) = 0 by omega]
      rfl
theorem triK_all (l : List Int) : triK l (prs l.length).length = triL l := by
  unfold triK triL
  apply List.map_congr_left
  intro d hd
  rw [rowT, List.take_length, prs, prsF_dst l.length d _ 0 rfl, Nat.sub_zero, List.map_map, List.range_eq_range']
  rfl
theorem triL_len (l : List Int) : (triL l).length = l.length - 1 := by simp [triL]
theorem triL_row (l : List Int) (x : List Int) (h : x ∈ triL l) : x.length ≤ l.length := by
  simp only [triL, List.mem_map, List.mem_range] at h
  obtain ⟨d, hd, rfl⟩ := h
  simp; omega
theorem rowT_len (l : List Int) (k d : Nat) : (rowT l ((prs l.length).take k) d).length ≤ (prs l.length).length := by
  unfold rowT
  rw [List.length_map]
  exact Nat.le_trans (List.length_filter_le _ _) (by rw [List.length_take]; omega)
theorem prs_len (n : Nat) : (prs n).length ≤ n * n := by
  unfold prs prsF
  refine Nat.le_trans (length_flatMap_le (fun x => rowP n x (x + 1)) n _ (fun x _ => by unfold rowP; simp)) ?_
  simp
end Go.Proofs.Ytmljdhckcplcaaa
