/- Lists of triples in memory; equality of triples. -/
import Derived.Test.YteffkcnlipdgaaaDoorAa
import Derived.Test.YteffkcnlipdgaaaDoorFr
import Derived.Deep.AppendLies
namespace Go.Proofs.YteffkcnlipdgaaaDoor
open Go.RowKit
set_option linter.unusedVariables false
set_option linter.unusedSimpArgs false

abbrev Ed := Int × Int × Int
/-- v reads as the list of triples l. -/
def RdE (w : World) (v : Value) (l : List Ed) : Prop :=
  ∃ A c, v = .slice A l.length c ∧ l.length ≤ maxLen ∧ ∀ (k : Nat) (x : Ed), l[k]? = some x → ∃ b off, A = some ⟨b, off, none⟩ ∧ w.cell? ⟨b, off + k * 3, none⟩ = some (.int .i64 x.1) ∧ w.cell? ⟨b, off + k * 3 + 1, none⟩ = some (.int .i64 x.2.1) ∧ w.cell? ⟨b, off + k * 3 + 2, none⟩ = some (.int .i64 x.2.2)
theorem RdE.below {w w' : World} {v : Value} {l : List Ed} (h : RdE w v l) (hb : Keeps w w') : RdE w' v l := by
  obtain ⟨A, c, rfl, hm, hc⟩ := h
  refine ⟨A, c, rfl, hm, fun k x hk => ?_⟩
  obtain ⟨b, off, hA, h1, h2, h3⟩ := hc k x hk
  exact ⟨b, off, hA, cell_keep h1 hb, cell_keep h2 hb, cell_keep h3 hb⟩
def ev (e : Int × Int × Int) : Array Value := #[.int .i64 e.1, .int .i64 e.2.1, .int .i64 e.2.2]
theorem take_at {α : Type} (l : List α) (k : Nat) (x : α) (h : l[k]? = some x) : l.take (k + 1) = l.take k ++ [x] := by
  rw [List.take_add_one, h]; rfl
theorem keeps_dr {a w : World} (h : Keeps a w) : Keeps a w.drew := below_drewN (n := 1) h
/-- What the cells of triples hold, one after the other. -/
def ecs (l : List Ed) : List Value := l.flatMap fun x => [.int .i64 x.1, .int .i64 x.2.1, .int .i64 x.2.2]
theorem ecs_length (l : List Ed) : (ecs l).length = l.length * 3 := by
  induction l with
  | nil => rfl
  | cons x l ih => simp only [ecs, List.flatMap_cons, List.length_append, List.length_cons, List.length_nil] at ih ⊢; omega
theorem ecs_at (l : List Ed) : ∀ (k : Nat) (x : Ed), l[k]? = some x → (ecs l)[k * 3]? = some (.int .i64 x.1) ∧ (ecs l)[k * 3 + 1]? = some (.int .i64 x.2.1) ∧ (ecs l)[k * 3 + 2]? = some (.int .i64 x.2.2) := by
  induction l with
  | nil => intro k x h; cases h
  | cons y l ih =>
    intro k x h
    cases k with
    | zero => cases h; exact ⟨rfl, rfl, rfl⟩
    | succ k =>
      obtain ⟨h1, h2, h3⟩ := ih k x (by simpa using h)
      have e : ecs (y :: l) = [.int .i64 y.1, .int .i64 y.2.1, .int .i64 y.2.2] ++ ecs l := rfl
      rw [e]
      refine ⟨?_, ?_, ?_⟩
      · rw [List.getElem?_append_right (by simp; omega)]; simpa [show (k + 1) * 3 - 3 = k * 3 by omega] using h1
      · rw [List.getElem?_append_right (by simp; omega)]; simpa [show (k + 1) * 3 + 1 - 3 = k * 3 + 1 by omega] using h2
      · rw [List.getElem?_append_right (by simp; omega)]; simpa [show (k + 1) * 3 + 2 - 3 = k * 3 + 2 by omega] using h3
theorem own_edges {w : World} {base : Nat} {e : TypeId} {v : Value} {l : List Ed} (h : w.ownsRow base e 3 v l.length (ecs l)) (hm : l.length ≤ maxLen) : RdE w v l := by
  rcases Nat.eq_zero_or_pos l.length with h0 | h0
  · have hl := List.eq_nil_of_length_eq_zero h0
    subst hl
    rcases h.2 with ⟨rfl, _⟩ | ⟨g, cap, cur, rfl, _⟩
    · exact ⟨none, 0, rfl, hm, fun k x hk => by cases hk⟩
    · exact ⟨_, cap, rfl, hm, fun k x hk => by cases hk⟩
  · obtain ⟨g, cap, rfl, hb, _, _, _, hc⟩ := own_form h h0
    refine ⟨_, cap, rfl, hm, fun k x hk => ?_⟩
    obtain ⟨h1, h2, h3⟩ := ecs_at l k x hk
    exact ⟨g, 0, rfl, by rw [Nat.zero_add]; exact hc _ _ h1, by rw [Nat.zero_add]; exact hc _ _ h2, by rw [Nat.zero_add]; exact hc _ _ h3⟩
theorem infoEd : (Tryd.prog.info? 22).map (fun i => (i.zero, i.size, i.bytes)) = some (some (.agg #[.int .i64 0, .int .i64 0, .int .i64 0]), 3, 24) := by kernel_rfl
/-- Appending nothing to nil. -/
theorem wpList_append_none {P : Program} {ops : Array Oper} {rest : List Oper} {o : Oper} {a : Act} {w : World} {Q : Exit → Act → World → Prop} (hgd : o.guard = none) (s x : Operand) (t : TypeId)
    (ho : o.op = .call { callee := .builtin .append, args := #[s, x], argTypes := #[t, t] }) (e : TypeId) (i : TypeInfo) (ht : P.underlying t = some (.slice e)) (hi : P.info? e = some i)
    (hs : a.eval s = .slice none 0 0) (A : Option Addr) (c : Nat) (hx : a.eval x = .slice A 0 c) (h : wpList P ops Q rest (a.put o.dst (.slice none 0 0)) w) : wpList P ops Q (o :: rest) a w := by
  refine wpList_plain hgd fun K hK => ?_
  have hrun : (Builtin.append_ #[t, t] o.type #[.slice none 0 0, .slice A 0 c]).run P w = .ok (.slice none 0 0) w := by
    cases A <;> simp [Builtin.append_, run_underlying ht, sizeOf, typeInfo, hi, Builtin.lenOf, Builtin.firstCells, loadCells, loadCellsFrom]
  unfold Oper.wp
  simp [execOp, ho, resolve, invoke, builtin, hs, hx, hrun, Result.andThen]
  exact hK _ _ h
theorem ecs_one (l : List Ed) : ∀ u ∈ ecs l, u.oneCell' = true := by
  intro u hu
  obtain ⟨x, _, hx⟩ := List.mem_flatMap.1 hu
  simp only [List.mem_cons, List.not_mem_nil, or_false] at hx
  rcases hx with rfl | rfl | rfl <;> rfl
theorem infoI : (Tryd.prog.info? 3).map (fun i => (i.zero, i.size, i.bytes)) = some (some (.int .i64 0), 1, 8) := by kernel_rfl
theorem infoTr : (Tryd.prog.info? 52).map (fun i => (i.zero, i.size, i.bytes)) = some (some (.agg #[.int .i64 0, .int .i64 0, .int .i64 0]), 3, 24) := by kernel_rfl
theorem size3 (a b c : Int) : (Tryd.prog.info? 22).map (·.size) = some (#[Value.int .i64 a, .int .i64 b, .int .i64 c] : Array Value).size := by
  show _ = some 3; kernel_rfl
/-- Whether two lists of three numbers are equal. -/
def eq3 (a b c d e f : Int) : Bool := (a == d) && ((b == e) && (c == f))
theorem eq3_iff (a b c d e f : Int) : eq3 a b c d e f = true ↔ a = d ∧ b = e ∧ c = f := by simp [eq3]
set_option maxRecDepth 100000 in
theorem eq3_arr (a b c d e f : Int) (w : World) : (Op.equalIn 10000 22 (.agg #[.int .i64 a, .int .i64 b, .int .i64 c]) (.agg #[.int .i64 d, .int .i64 e, .int .i64 f])).run Tryd.prog w = .ok (eq3 a b c d e f) w := by
  obtain ⟨i0, hi, -⟩ := info_parts infoI
  have h0 : ∀ (n : Nat) (x y : Int), (Op.equalIn (n + 1) 3 (.int .i64 x) (.int .i64 y)).run Tryd.prog w = .ok (x == y) w := fun n x y => by simp [Op.equalIn, go_sem]
  have h1 : ∀ x y : Int, (Op.equalIn 9999 3 (.int .i64 x) (.int .i64 y)).run Tryd.prog w = .ok (x == y) w := fun x y => h0 9998 x y
  clear h0
  have hp : Tryd.prog.cellsOf 3 = 1 := by kernel_rfl
  have q0 : ∀ x y z : Int, (part 3 #[Value.int .i64 x, .int .i64 y, .int .i64 z] 0).run Tryd.prog w = .ok (.int .i64 x) w := fun x y z => by kernel_rfl
  have q1 : ∀ x y z : Int, (part 3 #[Value.int .i64 x, .int .i64 y, .int .i64 z] 1).run Tryd.prog w = .ok (.int .i64 y) w := fun x y z => by kernel_rfl
  have q2 : ∀ x y z : Int, (part 3 #[Value.int .i64 x, .int .i64 y, .int .i64 z] 2).run Tryd.prog w = .ok (.int .i64 z) w := fun x y z => by kernel_rfl
  refine (run_equalIn_array (P := Tryd.prog) w 9999 #[.int .i64 a, .int .i64 b, .int .i64 c] #[.int .i64 d, .int .i64 e, .int .i64 f] Tryd.underlying22 hi).trans ?_
  rw [hp]
  generalize 9999 = n at *
  unfold eq3
  cases h3 : (a == d) <;> cases h4 : (b == e) <;> cases h5 : (c == f) <;>
  simp [Op.eqItems, List.range_succ, Sem.run_bind, q0, q1, q2, h1, h3, h4, h5, Result.andThen]
set_option maxRecDepth 100000 in
theorem eq3_tri (a b c d e f : Int) (w : World) : (Op.equalIn 10000 52 (.agg #[.int .i64 a, .int .i64 b, .int .i64 c]) (.agg #[.int .i64 d, .int .i64 e, .int .i64 f])).run Tryd.prog w = .ok (eq3 a b c d e f) w := by
  obtain ⟨i0, hi, -⟩ := info_parts infoI
  have h0 : ∀ (n : Nat) (x y : Int), (Op.equalIn (n + 1) 3 (.int .i64 x) (.int .i64 y)).run Tryd.prog w = .ok (x == y) w := fun n x y => by simp [Op.equalIn, go_sem]
  have h1 : ∀ x y : Int, (Op.equalIn 9999 3 (.int .i64 x) (.int .i64 y)).run Tryd.prog w = .ok (x == y) w := fun x y => h0 9998 x y
  clear h0
  have hp : Tryd.prog.cellsOf 3 = 1 := by kernel_rfl
  have q0 : ∀ x y z : Int, (part 3 #[Value.int .i64 x, .int .i64 y, .int .i64 z] 0).run Tryd.prog w = .ok (.int .i64 x) w := fun x y z => by kernel_rfl
  have q1 : ∀ x y z : Int, (part 3 #[Value.int .i64 x, .int .i64 y, .int .i64 z] 1).run Tryd.prog w = .ok (.int .i64 y) w := fun x y z => by kernel_rfl
  have q2 : ∀ x y z : Int, (part 3 #[Value.int .i64 x, .int .i64 y, .int .i64 z] 2).run Tryd.prog w = .ok (.int .i64 z) w := fun x y z => by kernel_rfl
  refine (run_equalIn_array (P := Tryd.prog) w 9999 #[.int .i64 a, .int .i64 b, .int .i64 c] #[.int .i64 d, .int .i64 e, .int .i64 f] Tryd.underlying52 hi).trans ?_
  rw [hp]
  generalize 9999 = n at *
  unfold eq3
  cases h3 : (a == d) <;> cases h4 : (b == e) <;> cases h5 : (c == f) <;>
  simp [Op.eqItems, List.range_succ, Sem.run_bind, q0, q1, q2, h1, h3, h4, h5, Result.andThen]
end Go.Proofs.YteffkcnlipdgaaaDoor
