/- slices.Sort of three numbers in a block; the walk of up. -/
import Derived.Test.YteffkcnlipdgaaaDoorAb
import Derived.Test.YteffkcnlipdgaaaDoorSo
namespace Go.Proofs.YteffkcnlipdgaaaDoor
open Go.RowKit Go.Sort
set_option linter.unusedVariables false
set_option linter.unusedSimpArgs false

/-- Three numbers, the first two in order, put into order. -/
def s3 (x y t : Int) : Int × Int × Int := if t ≤ x then (t, x, y) else if t ≤ y then (x, t, y) else (x, y, t)
def l3 (e : Int × Int × Int) : List Int := [e.1, e.2.1, e.2.2]
theorem l3_sorted (x y t : Int) (h : x ≤ y) : ([x, y, t].mergeSort fun x y => decide (x ≤ y)) = l3 (s3 x y t) := by
  have hp : ∀ {l R : List Int}, R.Perm l → R.Pairwise (fun a b => decide (a ≤ b) = true) → (l.mergeSort fun x y => decide (x ≤ y)) = R := by
    intro l R hp hw
    have h1 : (l.mergeSort fun x y => decide (x ≤ y)).Pairwise (fun a b : Int => a ≤ b) := by
      have := List.pairwise_mergeSort (le := fun x y : Int => decide (x ≤ y)) (by intro a b c; simp; omega) (by intro a b; simp; omega) l
      exact this.imp (fun h => by simpa using h)
    have h2 : R.Pairwise (fun a b : Int => a ≤ b) := hw.imp (fun h => by simpa using h)
    exact ((List.mergeSort_perm l _).trans hp.symm).eq_of_pairwise (fun a b _ _ h1 h2 => Int.le_antisymm h1 h2) h1 h2
  unfold s3
  split
  · refine hp ?_ (by simp [l3]; omega)
    exact (List.perm_append_comm (l₁ := [x, y]) (l₂ := [t])).symm
  · split
    · refine hp ?_ (by simp [l3]; omega)
      exact List.Perm.cons x (List.Perm.swap y t [])
    · exact hp (List.Perm.refl _) (by simp [l3]; omega)
set_option maxHeartbeats 1000000 in
/-- slices.Sort of three numbers that fill a block. -/
theorem sort3_c (g : Nat) (T : TypeId) (x y t : Int) (h : x ≤ y) (w0 w : World) (hk : Keeps w0 w) (hg : At w g T #[.int .i64 x, .int .i64 y, .int .i64 t]) (hb : w0.heap.size ≤ g) :
    Calls Tryd.prog 47 #[.slice (some ⟨g, 0, none⟩) 3 3] w fun e w' => e = .returned (.tuple #[]) ∧ At w' g T (ev (s3 x y t)) ∧ Keeps w0 w' := by
  obtain ⟨c0, c1, c2, f0, f1, f2⟩ := row_six hg
  have hH : Holds (Value.int .i64) w g 0 ([x, y, t] : List Int).toArray := by
    intro j hj
    match j with
    | 0 => exact ⟨c0, f0⟩
    | 1 => exact ⟨c1, f1⟩
    | 2 => exact ⟨c2, f2⟩
    | n + 3 => simp at hj; omega
  have H := AnyM.slices_Sort_int Tryd.sortA g 0 3 [x, y, t] w hH hg.lt (by simp)
  rw [l3_sorted x y t h] at H
  refine Calls.mono H ?_
  rintro e w' ⟨rfl, n, os, rfl⟩
  generalize s3 x y t = s
  have hat : At (putRow (Value.int .i64) (Sort.ahead w n) g 0 (l3 s).toArray) g T (ev s) := by
    unfold At at hg ⊢
    show ((w.heap.modify g _)[g]?) = _
    rw [Array.getElem?_modify, if_pos rfl, hg]
    rfl
  refine ⟨rfl, ?_, ?_⟩
  · unfold At
    rw [heap_grow_old _ _ hat.lt]
    exact hat
  · refine Below.trans hk ⟨rfl, rfl, rfl, ?_, fun k hk2 => ?_⟩
    · show _ ≤ (grow _ _).heap.size
      rw [size_grow]
      show _ ≤ (w.heap.modify g _).size + _
      rw [Array.size_modify]
      omega
    · have hsz : k < (putRow (Value.int .i64) (Sort.ahead w n) g 0 (l3 s).toArray).heap.size := by
        show k < (w.heap.modify g _).size
        rw [Array.size_modify]
        have := hk.size
        omega
      rw [heap_grow_old _ _ hsz]
      show (w.heap.modify g _)[k]? = _
      rw [Array.getElem?_modify, if_neg (by omega)]
theorem load_row_w {P : Program} {ops : Array Oper} {rest : List Oper} {o : Oper} {a : Act} {w : World} {Q : Exit → Act → World → Prop} (hw : Region.wanted o (yielded ops a.tmps) = true) (ty : TypeId) (x : Operand) (ho : o.op = .load ty x)
    (g : Nat) (hx : a.eval x = .pointer (some ⟨g, 0, none⟩)) (t : TypeId) (cs : Array Value) (fr : Nat × Nat) (d : TypeDesc) (hg : w.heap[g]? = some (.cells cs t fr))
    (hu : P.underlying ty = some d) (hd : (match d with | .struct _ | .array _ _ => true | _ => false) = true) (hi : (P.info? ty).map (·.size) = some cs.size)
    (h : wpList P ops Q rest (a.put o.dst (.agg cs)) w) : wpList P ops Q (o :: rest) a w :=
  wpList_step fun _ hK => by rw [if_pos hw]; exact wp_load_row ty x ho g hx t cs fr d hg hu hd hi (hK _ _ h)
theorem sizeV (e : Int × Int × Int) : (Tryd.prog.info? 52).map (·.size) = some (ev e).size := by show _ = some 3; kernel_rfl
theorem sizeW (e : Int × Int × Int) : (Tryd.prog.info? 22).map (·.size) = some (ev e).size := by show _ = some 3; kernel_rfl
theorem oneV (e : Int × Int × Int) : (ev e).all (·.oneCell') = true := by simp [ev, Value.oneCell']
theorem At.new3 (w : World) (o o' : Obj) (t : TypeId) (cs : Array Value) : At (((w.alloc o).alloc o').alloc (.cells cs t)) (w.heap.size + 1 + 1) t cs := by
  have := At.new ((w.alloc o).alloc o') t cs
  simpa using this

set_option maxHeartbeats 1000000 in
theorem up_c (x y z : Int) (hx : bd x) (hy : bd y) (hz : bd z) (hxy : x ≤ y) (w : World) :
    Calls Tryd.prog 34 #[.agg #[.int .i64 x, .int .i64 y, .int .i64 z]] w fun e w' => e = .returned (.agg (ev (s3 x y (3 * x * y - z)))) ∧ Keeps w w' := by
  obtain ⟨m1, m2⟩ := bd_mul hx hy
  have hh : 3 * x * y = 3 * (x * y) := Int.mul_assoc ..
  obtain ⟨x1, x2⟩ := hx
  obtain ⟨y1, y2⟩ := hy
  obtain ⟨z1, z2⟩ := hz
  have q0 : IntKind.i64.wrap (3 * x) = 3 * x := IntWalk.i64_in _ (by omega)
  have q1 : IntKind.i64.wrap (3 * x * y) = 3 * x * y := IntWalk.i64_in _ (by omega)
  have q2 : IntKind.i64.wrap (3 * x * y - z) = 3 * x * y - z := IntWalk.i64_in _ (by omega)
  clear hh m1 m2 x1 x2 y1 y2 z1 z2
  have hk : Keeps w (((w.alloc (.cells #[.int .i64 x, .int .i64 y, .int .i64 z] 52)).alloc (.cells #[.int .i64 0, .int .i64 0, .int .i64 0] 52)).alloc (.cells #[.int .i64 x, .int .i64 y, .int .i64 (3 * x * y - z)] 52)) := Keeps.alloc (Keeps.alloc (Keeps.alloc (Below.refl _ _) _) _) _
  have hC : At (((w.alloc (.cells #[.int .i64 x, .int .i64 y, .int .i64 z] 52)).alloc (.cells #[.int .i64 0, .int .i64 0, .int .i64 0] 52)).alloc (.cells #[.int .i64 x, .int .i64 y, .int .i64 (3 * x * y - z)] 52)) (w.heap.size + 1 + 1) 52 #[.int .i64 x, .int .i64 y, .int .i64 (3 * x * y - z)] := At.new3 _ _ _ _ _
  have cS := sort3_c (w.heap.size + 1 + 1) 52 x y (3 * x * y - z) hxy ((w.alloc (.cells #[.int .i64 x, .int .i64 y, .int .i64 z] 52)).alloc (.cells #[.int .i64 0, .int .i64 0, .int .i64 0] 52)) _ (Keeps.alloc (Below.refl _ _) _) hC (by simp)
  generalize s3 x y (3 * x * y - z) = s at cS ⊢
  go_enter Tryd.func34, Tryd.ntmps34
  go_wp2_with (first
    | (go_at_call 47; refine cS.mono ?_; rintro e w1 ⟨rfl, h1, h2⟩; have h3 := (At.new2 w (.cells #[.int .i64 x, .int .i64 y, .int .i64 z] 52) 52 #[.int .i64 0, .int .i64 0, .int .i64 0]).later h2; have h4 := Keeps.next (Keeps.alloc (Keeps.alloc (Below.refl w.heap.size w) (.cells #[.int .i64 x, .int .i64 y, .int .i64 z] 52)) (.cells #[.int .i64 0, .int .i64 0, .int .i64 0] 52)) h2; clear h2 cS hC hk)
    | (refine load_row_w rfl 52 _ rfl (w.heap.size + 1 + 1) rfl 52 (ev s) _ _ h1 Tryd.underlying52 rfl (sizeV _) ?_)
    | (refine wpList_store_row rfl 52 _ _ rfl (w.heap.size + 1) (ev s) rfl rfl 52 #[.int .i64 0, .int .i64 0, .int .i64 0] h3 (sizeV _) rfl (oneV _) ?_))
  have h5 := h3.row (ev s)
  refine bodyPost_ret (results_cell_row Tryd.results34 _ _ (w.heap.size + 1) _ _ _ _ rfl h5 Tryd.underlying52 rfl (sizeV _)) rfl ⟨rfl, below_row h4 (by omega) _⟩
end Go.Proofs.YteffkcnlipdgaaaDoor
