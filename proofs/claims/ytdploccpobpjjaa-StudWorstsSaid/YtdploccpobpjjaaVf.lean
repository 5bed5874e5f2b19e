/- The law's copy of a list; the words of meetings. -/
import Derived.Test.YtdploccpobpjjaaSl
import Derived.Test.YtdploccpobpjjaaFr
namespace Go.Proofs.Ytdploccpobpjjaa
open Go.RowKit
set_option linter.unusedVariables false

/-- Appending nothing to nil. -/
theorem wpList_append_none {P : Program} {ops : Array Oper} {rest : List Oper} {o : Oper} {a : Act} {w : World} {Q : Exit → Act → World → Prop} (hgd : o.guard = none) (s x : Operand) (t : TypeId)
    (ho : o.op = .call { callee := .builtin .append, args := #[s, x], argTypes := #[t, t] }) (e : TypeId) (i : TypeInfo) (ht : P.underlying t = some (.slice e)) (hi : P.info? e = some i)
    (hs : a.eval s = .slice none 0 0) (A : Option Addr) (c : Nat) (hx : a.eval x = .slice A 0 c) (h : wpList P ops Q rest (a.put o.dst (.slice none 0 0)) w) : wpList P ops Q (o :: rest) a w := by
  refine wpList_plain hgd fun K hK => ?_
  have hrun : (Builtin.append_ #[t, t] o.type #[.slice none 0 0, .slice A 0 c]).run P w = .ok (.slice none 0 0) w := by
    cases A <;> simp [Builtin.append_, run_underlying ht, sizeOf, typeInfo, hi, Builtin.lenOf, Builtin.firstCells, loadCells, loadCellsFrom]
  unfold Oper.wp
  simp [execOp, ho, resolve, invoke, builtin, hs, hx, hrun, Result.andThen]
  exact hK _ _ h
theorem cap_len {A : Option Addr} {n c : Nat} (h : Cap (.slice A n c)) : n ≤ c := h
set_option maxHeartbeats 1000000 in
theorem list_c (v : Value) (l : List Int) (w : World) (hv : RdI w v l) (hcap : Cap v) :
    Calls Try.prog 11 #[v] w fun e w' => ∃ A c, e = .returned (.slice A (l.take 17).length c) ∧ RdI w' (.slice A (l.take 17).length c) (l.take 17) ∧ Keeps w w' := by
  obtain ⟨A, c, rfl, hm, hcs⟩ := id hv
  have hc1 := cap_len hcap
  unfold maxLen at hm
  obtain ⟨i0, hi, hz0, hz1, hz2⟩ := info_parts infoI
  by_cases h0 : l.length = 0
  · obtain rfl := List.eq_nil_of_length_eq_zero h0
    have hmin : min (0 : Int) 17 = 0 := by decide
    clear hcs hv hcap
    go_enter Try.func11, Try.ntmps11
    go_wp2_with (refine wpList_append_none rfl _ _ 22 rfl 3 i0 Try.underlying22 hi rfl A c rfl ?_)
    go_ret
    exact ⟨none, 0, rfl, ⟨none, 0, rfl, by unfold maxLen; simp, fun k hk => by simp at hk⟩, Below.refl _ _⟩
  · obtain ⟨b, off, u0, rfl, c0, hu0⟩ := hcs 0 (by omega)
    have hcell : ∀ m, m ≤ l.length → ∀ j u, ((l.take m).map (Value.int .i64))[j]? = some u → w.cell? ((⟨b, off, none⟩ : Addr).add j) = some u := by
      intro m hm j u hu
      have hlen : (l.take m).length = m := by rw [List.length_take]; omega
      have hj := (List.getElem?_eq_some_iff.1 hu).1
      rw [List.length_map, hlen] at hj
      obtain ⟨b', off', u', hA, hcell', hu'⟩ := hcs j (by omega)
      cases hA
      have hu2 : u' = .int .i64 (nth l j) := hu'
      rw [show ((⟨b, off, none⟩ : Addr).add j) = ⟨b, off + j, none⟩ from by unfold Addr.add; split <;> simp_all, hcell', hu2, ← hu]
      simp [nth, show j < l.length by omega, show j < m from hj]
    have hfin : ∀ (m : Nat) (v' : Value) (w4 : World), 0 < m → m ≤ 17 → (l.take m).length = m → w4.ownsRow w.heap.size 3 1 v' (0 + m) ([] ++ (l.take m).map (Value.int .i64)) → w.grownBy w4 (Value.slice none 0 0).ownBlock → ∃ A c, v' = .slice A (l.take m).length c ∧ RdI w4 (.slice A (l.take m).length c) (l.take m) ∧ Keeps w w4 := by
      intro m v' w4 m1 m3 hl hown4 hgrow4
      rw [Nat.zero_add, List.nil_append] at hown4
      obtain ⟨g, cap, rfl, hg, hgl, -, -, -⟩ := own_form hown4 m1
      refine ⟨some ⟨g, 0, none⟩, cap, by rw [hl], ?_, (Below.refl _ w).grown hgrow4 (Nat.le_refl _) (fun r hr => by simp [Value.ownBlock] at hr)⟩
      have := own_ints (l := l.take m) (by rw [hl]; exact hown4) (by rw [hl]; unfold maxLen; omega)
      rw [hl]
      exact this.rd
    have Hfin := Lib.hid hfin
    clear hfin hcs hv hcap c0 hu0
    by_cases h17 : l.length ≤ 17
    · have hte : l.take 17 = l.take l.length := by rw [List.take_of_length_le h17, List.take_of_length_le (Nat.le_refl _)]
      have Hlen := Lib.hid (show (l.take l.length).length = l.length by simp)
      have Hcell := Lib.hid (hcell l.length (Nat.le_refl _))
      rw [hte]
      have q1 : (l.length : Int) ≤ 17 := by omega
      have q2 : decide ((17 : Int) < l.length) = false := by simp; omega
      have q3 : decide ((17 : Int) ≤ l.length) = decide (l.length = 17) := by rw [decide_eq_decide]; omega
      have m1 : 0 < l.length := by omega
      have B1 : 0 + l.length ≤ maxLen := by unfold maxLen; omega
      clear hcell hte h0
      by_cases h16 : (17 : Int) ≤ l.length
      all_goals
        go_enter Try.func11, Try.ntmps11
        go_wp2_with (first | (at_builtin; refine wpList_append_own _ rfl _ _ 22 rfl w.heap.size 3 i0 _ 1 8 Try.underlying22 hi hz0 hz1 hz2 rfl (by decide) _ 0 [] rfl (World.ownsRow_nil _ _ _ _) ⟨b, off, none⟩ l.length c ((l.take l.length).map (Value.int .i64)) (by first | rfl | (show Value.slice _ _ _ = _; congr 1; omega)) (by rw [List.length_map, Hlen.out, Nat.mul_one]) Hcell.out (fun u hu => by obtain ⟨x, _, rfl⟩ := List.mem_map.1 hu; rfl) B1 (by omega) (Nat.le_refl _) ?_; intro v' w4 hown4 hgrow4 _))
        refine bodyPost_ret (results_tmp (t := 2) (by rfl) _ _ _) rfl ?_
        obtain ⟨A', c', rfl, h2, h3⟩ := Hfin.out l.length v' w4 m1 h17 Hlen.out hown4 hgrow4
        refine ⟨A', c', ?_, ?_, h3⟩
        · first
            | rfl
            | (show Ending.returned (.slice A' (List.take l.length l).length c') = _; rw [List.take_length])
        · first
            | exact h2
            | (rw [List.take_length] at h2; exact h2)
    · have Hlen := Lib.hid (show (l.take 17).length = 17 by rw [List.length_take]; omega)
      have Hcell := Lib.hid (hcell 17 (by omega))
      have q1 : (17 : Int) < l.length := by omega
      have q2 : (17 : Int) ≤ l.length := by omega
      have q3 : (17 : Int) ≤ c := by omega
      have q4 : decide ((l.length : Int) ≤ 17) = false := by simp; omega
      have q5 : decide ((l.length : Int) < 17) = false := by simp; omega
      have B1 : 0 + 17 ≤ maxLen := by unfold maxLen; omega
      clear hcell h0 h17
      go_enter Try.func11, Try.ntmps11
      go_wp2_with (at_builtin; refine wpList_append_own _ rfl _ _ 22 rfl w.heap.size 3 i0 _ 1 8 Try.underlying22 hi hz0 hz1 hz2 rfl (by decide) _ 0 [] rfl (World.ownsRow_nil _ _ _ _) ⟨b, off, none⟩ 17 c ((l.take 17).map (Value.int .i64)) rfl (by rw [List.length_map, Hlen.out, Nat.mul_one]) Hcell.out (fun u hu => by obtain ⟨x, _, rfl⟩ := List.mem_map.1 hu; rfl) B1 (by omega) (Nat.le_refl _) ?_; intro v' w4 hown4 hgrow4 _)
      go_ret
      obtain ⟨A', c', rfl, h2, h3⟩ := Hfin.out 17 v' w4 (by omega) (by omega) Hlen.out hown4 hgrow4
      exact ⟨A', c', rfl, h2, h3⟩

/-- Does the stud of t lie by u columns and v rows from that of f? -/
def metB (l : List Int) (u v : Int) (f t : Nat) : Bool := decide (stp1 l f t = u ∧ stp2 l f t = v)
def metJ (l : List Int) (u v : Int) (f j : Nat) : Nat := ((List.range j).filter (metB l u v f)).length
def metI (l : List Int) (u v : Int) (n : Nat) : Nat → Nat
  | 0 => 0
  | i + 1 => metI l u v n i + metJ l u v i n
def meetN (l : List Int) (u v : Int) : Nat := metI l u v l.length l.length
theorem metJ_yes (l : List Int) (u v : Int) (f j : Nat) (h : metB l u v f j = true) : metJ l u v f (j + 1) = metJ l u v f j + 1 := by simp [metJ, List.range_succ, h]
theorem metJ_no (l : List Int) (u v : Int) (f j : Nat) (h : metB l u v f j = false) : metJ l u v f (j + 1) = metJ l u v f j := by simp [metJ, List.range_succ, h]
theorem metJ_le (l : List Int) (u v : Int) (f j : Nat) : metJ l u v f j ≤ j := Nat.le_trans (List.length_filter_le _ _) (by simp)
theorem metI_le (l : List Int) (u v : Int) (n i : Nat) : metI l u v n i ≤ i * n := by
  induction i with
  | zero => simp [metI]
  | succ i ih => have := metJ_le l u v i n; rw [metI, Nat.succ_mul]; omega
/-- The reference's count: the column i and the one by u further. -/
def rmB (l : List Int) (u v : Int) (i : Nat) : Bool := decide (0 ≤ (i : Int) + u ∧ (i : Int) + u < l.length) && decide (nth l ((i : Int) + u).toNat = nth l i + v)
def rmI (l : List Int) (u v : Int) (i : Nat) : Nat := ((List.range i).filter (rmB l u v)).length
theorem rmI_yes (l : List Int) (u v : Int) (i : Nat) (h : rmB l u v i = true) : rmI l u v (i + 1) = rmI l u v i + 1 := by simp [rmI, List.range_succ, h]
theorem rmI_no (l : List Int) (u v : Int) (i : Nat) (h : rmB l u v i = false) : rmI l u v (i + 1) = rmI l u v i := by simp [rmI, List.range_succ, h]
theorem rmI_le (l : List Int) (u v : Int) (i : Nat) : rmI l u v i ≤ i := Nat.le_trans (List.length_filter_le _ _) (by simp)
def farB (n u v : Int) : Bool := decide (u ≤ -n ∨ n ≤ u ∨ v ≤ -n ∨ n ≤ v)
def rmeetN (l : List Int) (u v : Int) : Nat := if farB l.length u v then 0 else rmI l u v l.length
/-- A column meets at most one other one. -/
theorem metJ_one (l : List Int) (u v : Int) (f : Nat) : ∀ j, metJ l u v f j = if 0 ≤ (f : Int) + u ∧ (f : Int) + u < j ∧ nth l ((f : Int) + u).toNat = nth l f + v then 1 else 0 := by
  intro j
  induction j with
  | zero => rw [if_neg (by omega)]; rfl
  | succ j ih =>
    cases hb : metB l u v f j with
    | true =>
      have hb2 : stp1 l f j = u ∧ stp2 l f j = v := of_decide_eq_true hb
      unfold stp1 stp2 at hb2
      have hju : ((f : Int) + u).toNat = j := by omega
      rw [metJ_yes _ _ _ _ _ hb, ih, if_neg (by omega), if_pos ⟨by omega, by omega, by rw [hju]; omega⟩]
    | false =>
      rw [metJ_no _ _ _ _ _ hb, ih]
      have hb2 : ¬ (stp1 l f j = u ∧ stp2 l f j = v) := of_decide_eq_false hb
      unfold stp1 stp2 at hb2
      by_cases h1 : 0 ≤ (f : Int) + u ∧ (f : Int) + u < j ∧ nth l ((f : Int) + u).toNat = nth l f + v
      · rw [if_pos h1, if_pos ⟨h1.1, by omega, h1.2.2⟩]
      · rw [if_neg h1, if_neg]
        rintro ⟨a, b, c⟩
        by_cases e : (f : Int) + u = j
        · have : ((f : Int) + u).toNat = j := by omega
          rw [this] at c
          exact hb2 ⟨by omega, by omega⟩
        · exact h1 ⟨a, by omega, c⟩
theorem metI_rm (l : List Int) (u v : Int) : ∀ i, metI l u v l.length i = rmI l u v i := by
  intro i
  induction i with
  | zero => rfl
  | succ i ih =>
    rw [metI, ih, metJ_one]
    by_cases h : 0 ≤ (i : Int) + u ∧ (i : Int) + u < l.length ∧ nth l ((i : Int) + u).toNat = nth l i + v
    · rw [if_pos h, rmI_yes _ _ _ _ (by simp [rmB, h])]
    · rw [if_neg h, rmI_no _ _ _ _ (by
        rw [Bool.eq_false_iff]; intro hb
        simp only [rmB, Bool.and_eq_true, decide_eq_true_eq] at hb
        exact h ⟨hb.1.1, hb.1.2, hb.2⟩)]
      rfl
theorem rmI_zero (l : List Int) (u v : Int) : ∀ i, i ≤ l.length → (∀ k, k < l.length → rmB l u v k = false) → rmI l u v i = 0 := by
  intro i hi h
  induction i with
  | zero => rfl
  | succ i ih => rw [rmI_no _ _ _ _ (h i (by omega)), ih (by omega)]
theorem meet_eq (l : List Int) (u v : Int) (hb : ∀ i, i < l.length → 0 ≤ nth l i ∧ nth l i < l.length) : meetN l u v = rmeetN l u v := by
  rw [meetN, metI_rm, rmeetN]
  cases hf : farB l.length u v with
  | false => rfl
  | true =>
    rw [if_pos rfl]
    simp only [farB, decide_eq_true_eq] at hf
    refine rmI_zero l u v _ (Nat.le_refl _) fun k hk => ?_
    rw [Bool.eq_false_iff]; intro h
    simp only [rmB, Bool.and_eq_true, decide_eq_true_eq] at h
    have h1 := hb k hk
    have h2 := hb ((k : Int) + u).toNat (by omega)
    omega
end Go.Proofs.Ytdploccpobpjjaa
