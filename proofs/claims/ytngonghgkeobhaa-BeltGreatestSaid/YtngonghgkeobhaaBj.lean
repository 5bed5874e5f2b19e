/- Best. -/
import Derived.Test.YtngonghgkeobhaaBi
namespace Go.Proofs.Ytngonghgkeobhaa
open Go.RowKit Go.Shelf
set_option linter.unusedVariables false
set_option linter.unusedSimpArgs false

theorem bst_lt (f : Nat → Int) (xs : List Nat) (h : ∀ x ∈ xs, x < 65536) : (bst f xs).1 < 65536 := by
  have key : ∀ (l : List Nat) (p : Nat × Int), (∀ x ∈ l, x < 65536) → p.1 < 65536 → (l.foldl (bstep f) p).1 < 65536 := by
    intro l
    induction l with
    | nil => intro p _ hp; exact hp
    | cons x l ih =>
      intro p hl hp
      rw [List.foldl_cons]
      refine ih _ (fun y hy => hl y (List.mem_cons_of_mem _ hy)) ?_
      unfold bstep
      split
      · exact hl x List.mem_cons_self
      · exact hp
  exact key xs _ h (by decide)
theorem sds_lt (u m : Nat) (h : m * u ≤ 4096) : ∀ x ∈ sds u m, x < 65536 := by
  intro x hx
  unfold sds at hx
  obtain ⟨i, hi, rfl⟩ := List.mem_map.1 hx
  have := Nat.mul_le_mul_right u (Nat.le_of_lt (List.mem_range.1 hi))
  omega
theorem pow_bt (v : Nat) (h : v < 12) : 2 ^ v * bt v = 2048 := by
  unfold bt
  rw [← Nat.pow_add, show v + (11 - v) = 11 by omega]
/-- The proper sides of v + 1 vertices. -/
def prp (v : Nat) : List Nat := sds (bt v) (2 ^ v)
/-- The best proper side, and its value. -/
def bestL (v : Nat) (l : List Ed) : Nat × Int := bst (fun s => valL s l) (prp v)
theorem bestL_lt (v : Nat) (h : v < 12) (l : List Ed) : (bestL v l).1 < 65536 := bst_lt _ _ (sds_lt _ _ (by rw [pow_bt v h]; decide))
set_option maxHeartbeats 1000000 in
theorem Best_no (n : Int) (V : Value) (l : List Ed) (hg : graphB n l = false) (w : World) (hv : RdE w V l) :
    Calls Try.prog 13 #[.int .i64 n, V] w fun e w' => e = .returned (.tuple #[.string ⟨#[]⟩, .int .i64 0, .int .i64 2]) ∧ Keeps w w' := by
  have c1 := newGraph_no n V l hg w hv
  clear hv hg
  go_enter Try.func13, Try.ntmps13
  go_wp2_with (go_at_call 33; refine c1.mono ?_; rintro e w1 ⟨rfl, b1⟩)
  go_ret3
  exact ⟨rfl, b1⟩
set_option maxHeartbeats 2000000 in
theorem Best_yes (v : Nat) (V : Value) (l : List Ed) (hg : graphB ((v : Int) + 1) l = true) (w : World) (hv : RdE w V l) :
    Calls Try.prog 13 #[.int .i64 ((v : Int) + 1), V] w fun e w' => e = .returned (.tuple #[.string ⟨(txt (bestL v l).1 (v + 1)).toArray⟩, .int .i64 (bestL v l).2, .int .i64 0]) ∧ Keeps w w' := by
  have hv12 : v < 12 := by have := (graphB_n hg).2; omega
  have c1 := newGraph_yes _ V l hg w hv
  have c2 := fun z => properSides_c v z
  have hp := pow_bt v hv12
  have c3 := fun g b1 b2 z q1 q2 q3 q4 => best_c v (2 ^ v) hv12 (by rw [hp]; decide) g b1 b2 V l (graphB_edges hg) z q1 q2 q3 q4
  have hlt := bestL_lt v hv12 l
  rw [show bst (fun s => valL s l) (sds (bt v) (2 ^ v)) = bestL v l from rfl, hp] at c3
  have c4 := fun z => text_c (bestL v l).1 (v + 1) (by omega) hlt z
  rw [show ((v + 1 : Nat) : Int) = (v : Int) + 1 by omega] at c4
  have HV := Lib.hid hv
  clear hg hv hp hlt
  generalize bestL v l = p at *
  go_enter Try.func13, Try.ntmps13
  go_wp2_with (first
    | (go_at_call 33
       refine c1.mono ?_
       rintro e w1 ⟨B, rfl, hB, a1, b1⟩
       have q1 := gc_edges a1
       have q2 := HV.out.below b1
       clear a1 c1)
    | (go_at_call 35
       refine (c2 _).mono ?_
       rintro e w2 ⟨rfl, hw⟩
       have k2 : Keeps w1 w2 := by rw [← hw]; exact Keeps.alloc (Keeps.alloc (Below.refl _ _) _) _
       have e1 : At w2 w1.heap.size 3 #[.int .i64 ((v : Int) + 1)] := by rw [← hw]; exact (At.new _ _ _).alloc _
       have e2 : At w2 (w1.heap.size + 1) 60 #[.int .u16 ((2048 : Nat) : Int)] := by rw [← hw]; exact At.new2 _ _ _ _
       clear hw c2)
    | (go_at_call 34
       refine (c3 _ _ _ _ (cell_keep q1 k2) (q2.below k2) e2 e1).mono ?_
       rintro e w3 ⟨rfl, b3⟩
       have k3 := Keeps.next (Keeps.next b1 k2) b3
       clear c3)
    | (go_at_call 36
       refine (c4 _).mono ?_
       rintro e w4 ⟨rfl, b4⟩
       have k4 := Keeps.next k3 b4))
  go_ret3
  exact ⟨rfl, k4⟩
end Go.Proofs.Ytngonghgkeobhaa
