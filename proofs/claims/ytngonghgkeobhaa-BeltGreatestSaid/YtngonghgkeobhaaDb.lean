/- The law's edges; the reference's Value. -/
import Derived.Test.YtngonghgkeobhaaDa
import Derived.Deep.AppendLies
import Derived.Test.YtngonghgkeobhaaFr
namespace Go.Proofs.Ytngonghgkeobhaa
open Go.RowKit Go.Shelf
set_option linter.unusedVariables false
set_option linter.unusedSimpArgs false

/-- What the cells of edges hold, one after the other. -/
def ecs (l : List Ed) : List Value := l.flatMap fun x => [.int .i64 x.1, .int .i64 x.2.1, .int .i64 x.2.2]
theorem ecs_length (l : List Ed) : (ecs l).length = l.length * 3 := by
  induction l with
  | nil => rfl
  | cons x l ih => simp only [ecs, List.flatMap_cons, List.length_append, List.length_cons, List.length_nil] at ih ⊢; omega
theorem ecs_at (l : List Ed) : ∀ (k : Nat) (x : Ed), l[k]? = some x → (ecs l)[k * 3]? = some (.int .i64 x.1) ∧ (ecs l)[k * 3 + 1]? = some (.int .i64 x.2.1) ∧ (ecs l)[k * 3 + 2]? = some (.int .i64 x.2.2) := by
  induction l with
  | nil => intro k x h; cases h
  | cons y l ih =>
    intro k x h
    cases k with
    | zero => cases h; exact ⟨rfl, rfl, rfl⟩
    | succ k =>
      obtain ⟨h1, h2, h3⟩ := ih k x (by simpa using h)
      have e : ecs (y :: l) = [.int .i64 y.1, .int .i64 y.2.1, .int .i64 y.2.2] ++ ecs l := rfl
      rw [e]
      refine ⟨?_, ?_, ?_⟩
      · rw [List.getElem?_append_right (by simp; omega)]; simpa [show (k + 1) * 3 - 3 = k * 3 by omega] using h1
      · rw [List.getElem?_append_right (by simp; omega)]; simpa [show (k + 1) * 3 + 1 - 3 = k * 3 + 1 by omega] using h2
      · rw [List.getElem?_append_right (by simp; omega)]; simpa [show (k + 1) * 3 + 2 - 3 = k * 3 + 2 by omega] using h3
theorem own_edges {w : World} {base : Nat} {e : TypeId} {v : Value} {l : List Ed} (h : w.ownsRow base e 3 v l.length (ecs l)) (hm : l.length ≤ maxLen) : RdE w v l := by
  rcases Nat.eq_zero_or_pos l.length with h0 | h0
  · have hl := List.eq_nil_of_length_eq_zero h0
    subst hl
    rcases h.2 with ⟨rfl, _⟩ | ⟨g, cap, cur, rfl, _⟩
    · exact ⟨none, 0, rfl, hm, fun k x hk => by cases hk⟩
    · exact ⟨_, cap, rfl, hm, fun k x hk => by cases hk⟩
  · obtain ⟨g, cap, rfl, hb, _, _, _, hc⟩ := own_form h h0
    refine ⟨_, cap, rfl, hm, fun k x hk => ?_⟩
    obtain ⟨h1, h2, h3⟩ := ecs_at l k x hk
    exact ⟨g, 0, rfl, by rw [Nat.zero_add]; exact hc _ _ h1, by rw [Nat.zero_add]; exact hc _ _ h2, by rw [Nat.zero_add]; exact hc _ _ h3⟩
theorem infoEd : (Try.prog.info? 28).map (fun i => (i.zero, i.size, i.bytes)) = some (some (.agg #[.int .i64 0, .int .i64 0, .int .i64 0]), 3, 24) := by kernel_rfl
/-- Appending nothing to nil. -/
theorem wpList_append_none {P : Program} {ops : Array Oper} {rest : List Oper} {o : Oper} {a : Act} {w : World} {Q : Exit → Act → World → Prop} (hgd : o.guard = none) (s x : Operand) (t : TypeId)
    (ho : o.op = .call { callee := .builtin .append, args := #[s, x], argTypes := #[t, t] }) (e : TypeId) (i : TypeInfo) (ht : P.underlying t = some (.slice e)) (hi : P.info? e = some i)
    (hs : a.eval s = .slice none 0 0) (A : Option Addr) (c : Nat) (hx : a.eval x = .slice A 0 c) (h : wpList P ops Q rest (a.put o.dst (.slice none 0 0)) w) : wpList P ops Q (o :: rest) a w := by
  refine wpList_plain hgd fun K hK => ?_
  have hrun : (Builtin.append_ #[t, t] o.type #[.slice none 0 0, .slice A 0 c]).run P w = .ok (.slice none 0 0) w := by
    cases A <;> simp [Builtin.append_, run_underlying ht, sizeOf, typeInfo, hi, Builtin.lenOf, Builtin.firstCells, loadCells, loadCellsFrom]
  unfold Oper.wp
  simp [execOp, ho, resolve, invoke, builtin, hs, hx, hrun, Result.andThen]
  exact hK _ _ h
theorem cap_len {A : Option Addr} {n c : Nat} (h : Cap (.slice A n c)) : n ≤ c := h
theorem ecs_one (l : List Ed) : ∀ u ∈ ecs l, u.oneCell' = true := by
  intro u hu
  obtain ⟨x, _, hx⟩ := List.mem_flatMap.1 hu
  simp only [List.mem_cons, List.not_mem_nil, or_false] at hx
  rcases hx with rfl | rfl | rfl <;> rfl
set_option maxHeartbeats 2000000 in
set_option maxRecDepth 100000 in
theorem edges_c (v : Value) (l : List Ed) (w : World) (hv : RdE w v l) (hcap : Cap v) :
    Calls Try.prog 27 #[v] w fun e w' => ∃ A c, e = .returned (.slice A (l.take 41).length c) ∧ RdE w' (.slice A (l.take 41).length c) (l.take 41) ∧ Keeps w w' := by
  obtain ⟨A, c, rfl, hm, hcs⟩ := id hv
  have hc1 := cap_len hcap
  unfold maxLen at hm
  obtain ⟨i0, hi, hz0, hz1, hz2⟩ := info_parts infoEd
  by_cases h0 : l.length = 0
  · obtain rfl := List.eq_nil_of_length_eq_zero h0
    have hmin : min (0 : Int) 41 = 0 := by decide
    clear hcs hv hcap
    go_enter Try.func27, Try.ntmps27
    go_wp2_with (refine wpList_append_none rfl _ _ 23 rfl 28 i0 Try.underlying23 hi rfl A c rfl ?_)
    go_ret
    exact ⟨none, 0, rfl, ⟨none, 0, rfl, by unfold maxLen; simp, fun k x hk => by simp at hk⟩, Below.refl _ _⟩
  · obtain ⟨b, off, rfl, c0, c01, c02⟩ := hcs 0 _ (List.getElem?_eq_getElem (by omega))
    have hcell : ∀ m, m ≤ l.length → ∀ j u, (ecs (l.take m))[j]? = some u → w.cell? ((⟨b, off, none⟩ : Addr).add j) = some u := by
      intro m hm j u hu
      have hlen : (l.take m).length = m := by rw [List.length_take]; omega
      have hj := (List.getElem?_eq_some_iff.1 hu).1
      rw [ecs_length, hlen] at hj
      have hk : j / 3 < l.length := by omega
      have hx : l[j / 3]? = some l[j / 3] := List.getElem?_eq_getElem hk
      have hxt : (l.take m)[j / 3]? = some l[j / 3] := by rw [List.getElem?_take]; rw [if_pos (by omega)]; exact hx
      obtain ⟨b', off', hA, q1, q2, q3⟩ := hcs (j / 3) _ hx
      cases hA
      obtain ⟨p1, p2, p3⟩ := ecs_at _ _ _ hxt
      rw [show ((⟨b, off, none⟩ : Addr).add j) = ⟨b, off + j, none⟩ from by unfold Addr.add; split <;> simp_all]
      have hr : j = j / 3 * 3 ∨ j = j / 3 * 3 + 1 ∨ j = j / 3 * 3 + 2 := by omega
      rcases hr with e | e | e
      · rw [e] at hu ⊢; rw [p1] at hu; rw [← hu]; exact q1
      · rw [e] at hu ⊢; rw [p2] at hu; rw [← hu, ← Nat.add_assoc]; exact q2
      · rw [e] at hu ⊢; rw [p3] at hu; rw [← hu, ← Nat.add_assoc]; exact q3
    have hfin : ∀ (m : Nat) (v' : Value) (w4 : World), 0 < m → m ≤ 41 → (l.take m).length = m → w4.ownsRow w.heap.size 28 3 v' (0 + m) ([] ++ ecs (l.take m)) → w.grownBy w4 (Value.slice none 0 0).ownBlock → ∃ A c, v' = .slice A (l.take m).length c ∧ RdE w4 (.slice A (l.take m).length c) (l.take m) ∧ Keeps w w4 := by
      intro m v' w4 m1 m3 hl hown4 hgrow4
      rw [Nat.zero_add, List.nil_append] at hown4
      obtain ⟨g, cap, rfl, hg, hgl, -, -, -⟩ := own_form hown4 m1
      refine ⟨some ⟨g, 0, none⟩, cap, by rw [hl], ?_, (Below.refl _ w).grown hgrow4 (Nat.le_refl _) (fun r hr => by simp [Value.ownBlock] at hr)⟩
      have := own_edges (l := l.take m) (by rw [hl]; exact hown4) (by rw [hl]; unfold maxLen; omega)
      rw [hl]
      exact this
    have Hfin := Lib.hid hfin
    clear hfin hcs hv hcap c0 c01 c02
    by_cases h41 : l.length ≤ 41
    · have hte : l.take 41 = l.take l.length := by rw [List.take_of_length_le h41, List.take_of_length_le (Nat.le_refl _)]
      have Hlen := Lib.hid (show (l.take l.length).length = l.length by simp)
      have Hcell := Lib.hid (hcell l.length (Nat.le_refl _))
      rw [hte]
      have q1 : (l.length : Int) ≤ 41 := by omega
      have q2 : decide ((41 : Int) < l.length) = false := by simp; omega
      have q3 : decide ((41 : Int) ≤ l.length) = decide (l.length = 41) := by rw [decide_eq_decide]; omega
      have m1 : 0 < l.length := by omega
      have B1 : 0 + l.length ≤ maxLen := by unfold maxLen; omega
      clear hcell hte h0
      by_cases h16 : (41 : Int) ≤ l.length
      all_goals
        go_enter Try.func27, Try.ntmps27
        go_wp2_with (first | (at_builtin; refine wpList_append_own _ rfl _ _ 23 rfl w.heap.size 28 i0 _ 3 24 Try.underlying23 hi hz0 hz1 hz2 rfl (by decide) _ 0 [] rfl (World.ownsRow_nil _ _ _ _) ⟨b, off, none⟩ l.length c (ecs (l.take l.length)) (by first | rfl | (show Value.slice _ _ _ = _; congr 1; omega)) (by rw [ecs_length, Hlen.out]) Hcell.out (ecs_one _) B1 (by omega) (Nat.le_refl _) ?_; intro v' w4 hown4 hgrow4 _))
        refine bodyPost_ret (results_tmp (t := 2) (by rfl) _ _ _) rfl ?_
        obtain ⟨A', c', rfl, h2, h3⟩ := Hfin.out l.length v' w4 m1 h41 Hlen.out hown4 hgrow4
        refine ⟨A', c', ?_, ?_, h3⟩
        · first
            | rfl
            | (show Ending.returned (.slice A' (List.take l.length l).length c') = _; rw [List.take_length])
        · first
            | exact h2
            | (rw [List.take_length] at h2; exact h2)
    · have Hlen := Lib.hid (show (l.take 41).length = 41 by rw [List.length_take]; omega)
      have Hcell := Lib.hid (hcell 41 (by omega))
      have q1 : (41 : Int) < l.length := by omega
      have q2 : (41 : Int) ≤ l.length := by omega
      have q3 : (41 : Int) ≤ c := by omega
      have q4 : decide ((l.length : Int) ≤ 41) = false := by simp; omega
      have q5 : decide ((l.length : Int) < 41) = false := by simp; omega
      have B1 : 0 + 41 ≤ maxLen := by unfold maxLen; omega
      clear hcell h0 h41
      go_enter Try.func27, Try.ntmps27
      go_wp2_with (at_builtin; refine wpList_append_own _ rfl _ _ 23 rfl w.heap.size 28 i0 _ 3 24 Try.underlying23 hi hz0 hz1 hz2 rfl (by decide) _ 0 [] rfl (World.ownsRow_nil _ _ _ _) ⟨b, off, none⟩ 41 c (ecs (l.take 41)) rfl (by rw [ecs_length, Hlen.out]) Hcell.out (ecs_one _) B1 (by omega) (Nat.le_refl _) ?_; intro v' w4 hown4 hgrow4 _)
      go_ret
      obtain ⟨A', c', rfl, h2, h3⟩ := Hfin.out 41 v' w4 (by omega) (by omega) Hlen.out hown4 hgrow4
      exact ⟨A', c', rfl, h2, h3⟩

end Go.Proofs.Ytngonghgkeobhaa
