/- awake answers true. -/
import Derived.Test.YtdploccpobpjjaaSk
import Derived.Test.YtdploccpobpjjaaSi
import Derived.Test.YtdploccpobpjjaaSg
import Derived.Test.YtdploccpobpjjaaLi
namespace Go.Proofs.Ytdploccpobpjjaa
open Go.RowKit
set_option linter.unusedVariables false

theorem load_row_w {P : Program} {ops : Array Oper} {rest : List Oper} {o : Oper} {a : Act} {w : World} {Q : Exit → Act → World → Prop} (hw : Region.wanted o (yielded ops a.tmps) = true) (ty : TypeId) (x : Operand) (ho : o.op = .load ty x)
    (g : Nat) (hx : a.eval x = .pointer (some ⟨g, 0, none⟩)) (t : TypeId) (cs : Array Value) (fr : Nat × Nat) (d : TypeDesc) (hg : w.heap[g]? = some (.cells cs t fr))
    (hu : P.underlying ty = some d) (hd : (match d with | .struct _ | .array _ _ => true | _ => false) = true) (hi : (P.info? ty).map (·.size) = some cs.size)
    (h : wpList P ops Q rest (a.put o.dst (.agg cs)) w) : wpList P ops Q (o :: rest) a w :=
  wpList_step fun _ hK => by rw [if_pos hw]; exact wp_load_row ty x ho g hx t cs fr d hg hu hd hi (hK _ _ h)
theorem lit_rd (w : World) (l : List Int) (n : Nat) (hn : l.length = n) (h : n ≤ 1000) : RdI (w.alloc (.cells (ic l) 3)) (.slice (some ⟨w.heap.size, 0, none⟩) n n) l := by
  have := RdI_of_at (m := n) (c := n) (At.new w 3 (ic l)) (by omega) (by unfold maxLen; omega)
  rwa [List.take_of_length_le (by omega)] at this
theorem ints_yes (v v' : Value) (s : List Int) (w : World) (ha : RdI w v s) (hb : RdI w v' s) :
    Calls Try.prog 15 #[v, v'] w fun e w' => e = .returned (.bool true) ∧ Keeps w w' :=
  (ints_c v v' s s w ha hb).mono fun _ _ ⟨h, m, hm⟩ => ⟨by rw [h]; simp, by rw [hm]; exact below_drewN (Below.refl _ _)⟩
theorem ev_c1 : clearA [0, 1, 3, 2] = ia 0 0 0 0 ∧ clearK [0, 1, 3, 2] = true ∧ ordB [0, 1, 3, 2] = true := by
  have h : ordB [0, 1, 3, 2] = true ∧ clearF [0, 1, 3, 2] = none := by decide +kernel
  rw [clearA, clearK, clearT, h.1, h.2]; exact ⟨rfl, rfl, rfl⟩
theorem ev_c2 : clearA [0, 1, 2] = ia 0 1 1 2 ∧ clearK [0, 1, 2] = false ∧ ordB [0, 1, 2] = true := by
  have h : ordB [0, 1, 2] = true ∧ clearF [0, 1, 2] = some ((0, 1), (1, 2)) := by decide +kernel
  rw [clearA, clearK, clearT, h.1, h.2]; exact ⟨rfl, rfl, rfl⟩
theorem ev_pow : powL 7 3 0 = [0, 2, 1, 5, 3, 4] ∧ primeB 7 = true ∧ rootB 7 3 = true := by decide +kernel
theorem ev_log : logL 5 2 2 = [1, 0, 2] ∧ primeB 5 = true ∧ rootB 5 2 = true := by decide +kernel
theorem eq4_ev (w : World) : (Op.equalIn 10000 27 (.agg #[.int .i64 0, .int .i64 1, .int .i64 1, .int .i64 2]) (.agg #[.int .i64 0, .int .i64 1, .int .i64 1, .int .i64 2])).run Try.prog w = .ok true w := by kernel_rfl
set_option maxHeartbeats 2000000 in
set_option maxRecDepth 100000 in
theorem awake_c (w : World) : Calls Try.prog 10 #[] w fun e w' => e = .returned (.bool true) ∧ Keeps w w' := by
  have hc1 := fun b x hx => clear_c (some ⟨b, 0, none⟩) 4 [0, 1, 3, 2] x hx
  have hc2 := fun b x hx => clear_c (some ⟨b, 0, none⟩) 3 [0, 1, 2] x hx
  rw [ev_c1.1, ev_c1.2.1, ev_c1.2.2, if_pos rfl] at hc1
  rw [ev_c2.1, ev_c2.2.1, ev_c2.2.2, if_pos rfl] at hc2
  simp only [List.length_cons, List.length_nil, Nat.reduceAdd] at hc1 hc2
  have hpw := fun x => powers_yes 7 3 0 ev_pow.2.1 ev_pow.2.2 (by decide) x
  have hlo := fun x => logs_yes 5 2 2 ev_log.2.1 ev_log.2.2 ev_log.2.2 x
  rw [ev_pow.1] at hpw
  rw [ev_log.1] at hlo
  simp only [Nat.reduceSub] at hpw hlo
  have hct := fun x => count_c 5 x
  rw [ev_count5, show codeE (cntB 5) = 0 from rfl] at hct
  have he4 := eq4_ev
  have l1 := lit_rd w [0, 1, 3, 2] 4 rfl (by decide)
  have l2 := fun x => lit_rd x [0, 1, 2] 3 rfl (by decide)
  have l3 := fun x => lit_rd x [0, 2, 1, 5, 3, 4] 6 rfl (by decide)
  have l4 := fun x => lit_rd x [1, 0, 2] 3 rfl (by decide)
  go_enter Try.func10, Try.ntmps10
  go_wp2_with (first
    | (go_at_call 8
       refine (hc1 _ _ l1).mono ?_
       rintro e w1 ⟨rfl, hb1⟩
       have hk1 : Keeps w w1 := Keeps.next (Keeps.alloc (Below.refl _ _) _) hb1
       clear hc1 l1 hb1)
    | (refine wpList_store_row rfl 27 _ _ rfl w1.heap.size (ia 0 0 0 0) rfl rfl 27 (ia 0 0 0 0) (At.new w1 27 (ia 0 0 0 0)) (sizeF _ _ _ _) rfl (by simp [ia, Value.oneCell']) ?_
       have hk2 : Keeps w ((w1.alloc (.cells (ia 0 0 0 0) 27)).setRow w1.heap.size (ia 0 0 0 0)) := below_row (Keeps.alloc hk1 _) hk1.size _
       change wpList _ _ _ _ _ ((w1.alloc (.cells (ia 0 0 0 0) 27)).setRow w1.heap.size (ia 0 0 0 0))
       generalize (w1.alloc (.cells (ia 0 0 0 0) 27)).setRow w1.heap.size (ia 0 0 0 0) = w2 at *
       clear hk1)
    | (go_at_call 8
       refine (hc2 _ _ (l2 _)).mono ?_
       rintro e w3 ⟨rfl, hb3⟩
       have hk3 : Keeps w w3 := Keeps.next (Keeps.alloc hk2 _) hb3
       clear hc2 hb3 hk2)
    | (refine wpList_store_row rfl 27 _ _ rfl w3.heap.size (ia 0 1 1 2) rfl rfl 27 (ia 0 0 0 0) (At.new w3 27 (ia 0 0 0 0)) (sizeF _ _ _ _) rfl (by simp [ia, Value.oneCell']) ?_
       have hk4 : Keeps w ((w3.alloc (.cells (ia 0 0 0 0) 27)).setRow w3.heap.size (ia 0 1 1 2)) := below_row (Keeps.alloc hk3 _) hk3.size _
       have ha4 : At ((w3.alloc (.cells (ia 0 0 0 0) 27)).setRow w3.heap.size (ia 0 1 1 2)) w3.heap.size 27 (ia 0 1 1 2) := (At.new w3 27 (ia 0 0 0 0)).row _
       change wpList _ _ _ _ _ ((w3.alloc (.cells (ia 0 0 0 0) 27)).setRow w3.heap.size (ia 0 1 1 2))
       generalize (w3.alloc (.cells (ia 0 0 0 0) 27)).setRow w3.heap.size (ia 0 1 1 2) = w4 at *
       generalize w3.heap.size = g4 at *
       clear hk3)
    | (go_at_call 24
       refine (hpw _).mono ?_
       rintro e w5 ⟨bp, rfl, -, hp5, hb5⟩
       have hk5 : Keeps w w5 := Keeps.next hk4 hb5
       have ha5 := ha4.later hb5
       clear hpw hb5 hk4 ha4)
    | (go_at_call 25
       refine (hlo _).mono ?_
       rintro e w6 ⟨bl, rfl, -, hl6, hb6⟩
       have hk6 : Keeps w w6 := Keeps.next hk5 hb6
       have ha6 := ha5.later hb6
       have hp6 := hp5.later hb6
       clear hlo hb6 hk5 ha5 hp5)
    | (go_at_call 26
       refine (hct _).mono ?_
       rintro e w7 ⟨rfl, hb7⟩
       have hk7 : Keeps w w7 := Keeps.next hk6 hb7
       have ha7 := ha6.later hb7
       have hp7 := hp6.later hb7
       have hl7 := hl6.later hb7
       clear hct hb7 hk6 ha6 hp6 hl6)
    | (refine load_row_w rfl 27 _ rfl g4 rfl 27 #[.int .i64 0, .int .i64 1, .int .i64 1, .int .i64 2] (0, 0) _ ha7 Try.underlying27 rfl (sizeF 0 1 1 2) ?_)
    | (go_at_call 15
       refine (ints_yes _ _ [0, 2, 1, 5, 3, 4] _ (RdI_of_at (m := 6) (c := 6) (hp7.alloc _) (by decide) (by unfold maxLen; decide)) (l3 _)).mono ?_
       rintro e w8 ⟨rfl, hb8⟩
       have hk8 : Keeps w w8 := Keeps.next (Keeps.alloc hk7 _) hb8
       have hl8 := (hl7.alloc (.cells #[.int .i64 0, .int .i64 2, .int .i64 1, .int .i64 5, .int .i64 3, .int .i64 4] 3)).later hb8
       clear hb8 hk7 hp7 hl7 ha7)
    | (go_at_call 15
       refine (ints_yes _ _ [1, 0, 2] _ (RdI_of_at (m := 3) (c := 3) (hl8.alloc _) (by decide) (by unfold maxLen; decide)) (l4 _)).mono ?_
       rintro e w9 ⟨rfl, hb9⟩
       have hk9 : Keeps w w9 := Keeps.next (Keeps.alloc hk8 _) hb9
       clear hb9 hk8 hl8))
  go_ret
  exact ⟨rfl, hk9⟩
end Go.Proofs.Ytdploccpobpjjaa
