/- The walks of place, newDigits, digits.text. -/
import Derived.Test.YtfekggmdhmkemaaDoorGh
import Derived.Test.YtfekggmdhmkemaaDoorGe
import Derived.Lib.BufferWrite
namespace Go.Proofs.YtfekggmdhmkemaaDoor
open Go.RowKit
set_option linter.unusedVariables false
set_option linter.unusedSimpArgs false

theorem place_c (k : Int) (h : -40 ≤ k) (h' : k ≤ 39) (w : World) : Calls Tryd.prog 40 #[.int .i64 k] w fun e w' => e = .returned (.int .i64 (39 - k)) ∧ w = w' := by
  go_enter Tryd.func40, Tryd.ntmps40
  go_wp2_with fail
  go_ret
  exact ⟨rfl, rfl⟩
def dB (l : List UInt8) : Array Value := (bytes l).toArray
theorem dB_size (l : List UInt8) : (dB l).size = l.length := by simp [dB, bytes]
theorem sizeD (l : List UInt8) (h : l.length = 80) : (Tryd.prog.info? 44).map (·.size) = some (dB l).size := by
  rw [dB_size, h]; kernel_rfl
theorem oneD (l : List UInt8) : (dB l).all (·.oneCell') = true := by
  rw [Array.all_eq_true_iff_forall_mem]; intro v hv; simp [dB, bytes] at hv; obtain ⟨x, _, rfl⟩ := hv; rfl
theorem copy_run {P : Program} (w : World) (dT sT ty elem : TypeId) (g o dLen dCap : Nat) (s : ByteArray) (l : List UInt8) (t : TypeId)
    (hu : P.underlying dT = some (.slice elem)) (hs : (P.info? elem).map (·.size) = some 1) (hg : At w g t (dB l)) (hle : s.size ≤ dLen) (hfit : o + s.size ≤ l.length) :
    (Builtin.copy_ #[dT, sT] ty #[.slice (some ⟨g, o, none⟩) dLen dCap, .string s]).run P w = .ok (goInt s.size) (w.setRow g (dB (l.take o ++ s.data.toList ++ l.drop (o + s.size)))) := by
  have := Lib.run_copy_row_string (P := P) w dT sT ty elem g o dLen dCap s (dB l) t hu hs hg hle (by rw [dB_size]; exact hfit)
  rw [this]
  congr 2
  simp [dB, bytes, Lib.byteCells, List.map_take, List.map_drop]
theorem wpList_copy_run {P : Program} (w : World) {ops : Array Oper} {rest : List Oper} {o : Oper} {a : Act} {Q : Exit → Act → World → Prop} (hgd : o.guard = none) (d s : Operand) (t t' : TypeId)
    (ho : o.op = .call { callee := .builtin .copy, args := #[d, s], argTypes := #[t, t'] }) (v u : Value) (hd : a.eval d = v) (hs : a.eval s = u) {v' : Value} {w' : World}
    (hr : (Builtin.copy_ #[t, t'] o.type #[v, u]).run P w = .ok v' w') (h : wpList P ops Q rest (a.put o.dst v') w') : wpList P ops Q (o :: rest) a w :=
  wpList_plain hgd fun K hK => by
    unfold Oper.wp execOp
    simp only [ho, resolve, invoke, builtin, Sem.run_bind, Sem.run_pure, Result.andThen_ok, List.map_toArray, List.map_cons, List.map_nil, hd, hs, hr]
    exact hK _ _ h
theorem step_copy_run {P : Program} {ops : Array Oper} {o : Oper} {a : Act} {w : World} {K : Act → World → Prop} {Q : Exit → Act → World → Prop} {E : Prop} (hgd : o.guard = none) (d s : Operand) (t t' : TypeId)
    (ho : o.op = .call { callee := .builtin .copy, args := #[d, s], argTypes := #[t, t'] }) (v u : Value) (hd : a.eval d = v) (hs : a.eval s = u) {v' : Value} {w' : World}
    (hr : (Builtin.copy_ #[t, t'] o.type #[v, u]).run P w = .ok v' w') (h : K (a.put o.dst v') w') : if Region.wanted o (yielded ops a.tmps) = true then Oper.wp P o a w K Q else E := by
  have hw : Region.wanted o (yielded ops a.tmps) = true := by simp [Region.wanted, hgd]
  rw [if_pos hw]
  unfold Oper.wp execOp
  simp only [ho, resolve, invoke, builtin, Sem.run_bind, Sem.run_pure, Result.andThen_ok, List.map_toArray, List.map_cons, List.map_nil, hd, hs, hr]
  exact h
theorem lenD : Tryd.prog.arrayLen 44 = 80 := by kernel_rfl
theorem undD : Tryd.prog.underlying 44 = some (.array (Tryd.prog.arrayLen 44) (Tryd.prog.elem 44)) := by kernel_rfl
theorem szD (w : World) : (sizeOf (Tryd.prog.elem 44)).run Tryd.prog w = .ok 1 w := by kernel_rfl
theorem slice_low (g : Nat) (l : Nat) (h : l < 80) (w : World) : (Instr.sliceAt 44 (.pointer (some ⟨g, 0, none⟩)) (some (.int .i64 (l : Int))) none none).run Tryd.prog w = .ok (.slice (some ⟨g, l, none⟩) (80 - l) (80 - l)) w := by
  rw [run_sliceAt_array_l w 44 ⟨g, 0, none⟩ undD .i64 l (by omega) (by rw [lenD]; omega), szD]
  simp only [Result.andThen_ok, slicedAt, lenD, Int.toNat_natCast]
  rw [if_neg (by omega)]
  have : (⟨g, 0, none⟩ : Addr).add (l * 1) = ⟨g, l, none⟩ := by unfold Addr.add; split <;> simp_all
  rw [this]
theorem slice_high (g : Nat) (h : Nat) (h0 : 0 < h) (h8 : h ≤ 80) (w : World) : (Instr.sliceAt 44 (.pointer (some ⟨g, 0, none⟩)) none (some (.int .i64 (h : Int))) none).run Tryd.prog w = .ok (.slice (some ⟨g, 0, none⟩) h 80) w := by
  rw [run_sliceAt_array_h w 44 ⟨g, 0, none⟩ undD .i64 h (by omega) (by rw [lenD]; omega), szD]
  simp only [Result.andThen_ok, slicedAt, lenD, Int.toNat_natCast]
  rw [if_neg (by omega)]
  rfl
/-- The digits of a text: before and behind the point. -/
def digL (b a : List UInt8) : List UInt8 := List.replicate (40 - b.length) 48 ++ b ++ (a ++ List.replicate (40 - a.length) 48)
set_option maxHeartbeats 1000000 in
set_option maxRecDepth 100000 in
theorem newDigits_c (b a : ByteArray) (hb : b.size ≤ 40) (ha : a.size ≤ 40) (w : World) :
    Calls Tryd.prog 37 #[.string b, .string a] w fun e w' => e = .returned (.agg (dB (digL b.data.toList a.data.toList))) ∧ Keeps w w' := by
  obtain ⟨R, hR⟩ : ∃ R : ByteArray, (⟨(Lib.repeatL [48] 80).toArray⟩ : ByteArray) = R := ⟨_, rfl⟩
  have hrep : ∀ y, Calls Tryd.prog 52 #[.string ⟨#[48]⟩, .int .i64 80] y fun e w' => e = .returned (.string R) ∧ Below y.heap.size y w' := fun y => by
    rw [← hR]; exact Tryd.strings_Repeat ⟨#[48]⟩ 80 y (by decide) (by decide)
  have hRl : R.data.toList = List.replicate 80 48 := by rw [← hR]; decide
  have hRs : R.size = 80 := by rw [← hR]; rfl
  have hz : Tryd.zeroCells44 = dB (List.replicate 80 0) := by kernel_rfl
  have HRl := Lib.hid hRl
  have hu := Tryd.underlying56
  have hiB : (Tryd.prog.info? 5).map (·.size) = some 1 := by kernel_rfl
  clear hR hRl
  obtain ⟨X, hX⟩ : ∃ X, (w.alloc (.cells Tryd.zeroCells44 44)).alloc (.cells Tryd.zeroCells44 44) = X := ⟨_, rfl⟩
  have h4 : At X w.heap.size 44 (dB (List.replicate 80 0)) := by rw [← hX, ← hz]; exact (At.new w _ _).alloc _
  have h5 : At X (w.heap.size + 1) 44 (dB (List.replicate 80 0)) := by rw [← hX, ← hz]; exact At.new2 w _ _ _
  have hk : Keeps w X := by rw [← hX]; exact Keeps.alloc (Keeps.alloc (Below.refl _ _) _) _
  have HX := Lib.hid hX
  have HRs := Lib.hid hRs
  clear hX hz hRs
  go_enter Tryd.func37, Tryd.ntmps37
  go_wp2_with fail
  rw [HX.out]
  go_region_held3 (fun _ => True) (trivial)
    (first
      | (go_at_call 52
         refine (hrep _).mono ?_
         rintro e w2 ⟨rfl, hb2⟩)
      | (refine step_copy_run rfl _ _ _ _ rfl _ _ rfl rfl (copy_run _ _ _ _ 5 (w.heap.size + 1) 0 80 80 R (List.replicate 80 0) 44 hu hiB (h5.drew.later hb2) (Nat.le_of_eq HRs.out) (by simp; exact Nat.le_of_eq HRs.out)) ?_))
  have g5 := (h5.drew.later hb2).row (dB (List.take 0 (List.replicate 80 0) ++ R.data.toList ++ List.drop (0 + R.size) (List.replicate 80 0)))
  have g4 := (h4.drew.later hb2).rowfar (by omega) (dB (List.take 0 (List.replicate 80 0) ++ R.data.toList ++ List.drop (0 + R.size) (List.replicate 80 0))) (g' := w.heap.size + 1)
  have gk := below_row (Keeps.next (Keeps.dr hk) hb2) (g := w.heap.size + 1) (by omega) (dB (List.take 0 (List.replicate 80 0) ++ R.data.toList ++ List.drop (0 + R.size) (List.replicate 80 0)))
  generalize w2.setRow (w.heap.size + 1) (dB (List.take 0 (List.replicate 80 0) ++ R.data.toList ++ List.drop (0 + R.size) (List.replicate 80 0))) = Y at *
  have e1 : List.take 0 (List.replicate 80 0) ++ R.data.toList ++ List.drop (0 + R.size) (List.replicate 80 0) = List.replicate 80 (48 : UInt8) := by
    rw [HRl.out, HRs.out]; simp
  rw [e1] at g5
  have cb := copy_run (P := Tryd.prog) Y 56 9 3 5 (w.heap.size + 1) (40 - b.size) (80 - (40 - b.size)) (80 - (40 - b.size)) b (List.replicate 80 48) 44 hu hiB g5 (by omega) (by simp; omega)
  have e2 : List.take (40 - b.size) (List.replicate 80 (48 : UInt8)) ++ b.data.toList ++ List.drop (40 - b.size + b.size) (List.replicate 80 48) = List.replicate (40 - b.size) 48 ++ b.data.toList ++ List.replicate 40 48 := by
    rw [List.take_replicate, List.drop_replicate, show min (40 - b.size) 80 = 40 - b.size by omega, show 80 - (40 - b.size + b.size) = 40 by omega]
  have hbl : b.data.toList.length = b.size := by simp
  have hal : a.data.toList.length = a.size := by simp
  rw [e2] at cb
  have g5b := g5.row (dB (List.replicate (40 - b.size) 48 ++ b.data.toList ++ List.replicate 40 48))
  have g4b := g4.rowfar (by omega) (dB (List.replicate (40 - b.size) 48 ++ b.data.toList ++ List.replicate 40 48)) (g' := w.heap.size + 1)
  have gkb := below_row gk (g := w.heap.size + 1) (by omega) (dB (List.replicate (40 - b.size) 48 ++ b.data.toList ++ List.replicate 40 48))
  have ca := copy_run (P := Tryd.prog) (Y.setRow (w.heap.size + 1) (dB (List.replicate (40 - b.size) 48 ++ b.data.toList ++ List.replicate 40 48))) 56 9 3 5 (w.heap.size + 1) 40 40 40 a (List.replicate (40 - b.size) 48 ++ b.data.toList ++ List.replicate 40 48) 44 hu hiB g5b (by omega) (by simp; omega)
  have e3 : List.take 40 (List.replicate (40 - b.size) (48 : UInt8) ++ b.data.toList ++ List.replicate 40 48) ++ a.data.toList ++ List.drop (40 + a.size) (List.replicate (40 - b.size) 48 ++ b.data.toList ++ List.replicate 40 48) = digL b.data.toList a.data.toList := by
    have hl : (List.replicate (40 - b.size) (48 : UInt8) ++ b.data.toList).length = 40 := by simp; omega
    rw [List.take_append_of_le_length (by omega), List.take_of_length_le (by omega), List.drop_append, hl, List.drop_of_length_le (by omega), List.nil_append, List.drop_replicate, digL, hbl, hal, List.append_assoc (List.replicate (40 - b.size) 48 ++ b.data.toList), show 40 - (40 + a.size - 40) = 40 - a.size by omega]
  rw [e3] at ca
  have hdl : (digL b.data.toList a.data.toList).length = 80 := by simp [digL]; omega
  have g5c := g5b.row (dB (digL b.data.toList a.data.toList))
  have g4c := g4b.rowfar (by omega) (dB (digL b.data.toList a.data.toList)) (g' := w.heap.size + 1)
  have gkc := below_row gkb (g := w.heap.size + 1) (by omega) (dB (digL b.data.toList a.data.toList))
  have Hd := Lib.hid hdl
  have hbi : IntKind.i64.wrap (40 - (b.size : Int)) = 40 - (b.size : Int) := IntWalk.i64_in _ (by omega)
  have hsl := slice_low (w.heap.size + 1) (40 - b.size) (by omega)
  rw [show ((40 - b.size : Nat) : Int) = 40 - (b.size : Int) by omega] at hsl
  clear e1 e2 e3 hbl hal hdl g5 g4 gk h4 h5 hk hb2 hrep HRl HRs HX
  generalize hD : digL b.data.toList a.data.toList = D at *
  have HD := Lib.hid hD
  clear hD
  generalize List.replicate (40 - b.size) (48 : UInt8) ++ b.data.toList ++ List.replicate 40 48 = L2 at *
  go_wp2_with (first
    | (at_builtin; refine wpList_copy_run _ rfl _ _ _ _ rfl _ _ rfl rfl cb ?_)
    | (at_builtin; refine wpList_copy_run _ rfl _ _ _ _ rfl _ _ rfl rfl ca ?_)
    | (refine wpList_load_row rfl 44 _ rfl (w.heap.size + 1) rfl 44 _ _ _ g5c Tryd.underlying44 rfl (sizeD _ Hd.out) ?_)
    | (refine wpList_store_row rfl 44 _ _ rfl w.heap.size (dB D) rfl rfl 44 _ g4c (sizeD _ Hd.out) (by rw [dB_size, dB_size, Hd.out]; simp) (oneD _) ?_))
  exact bodyPost_ret (results_cell_row Tryd.results37 _ _ w.heap.size _ _ _ _ rfl (g4c.row _) Tryd.underlying44 rfl (sizeD _ Hd.out)) rfl ⟨by rw [HD.out], below_row gkc (by omega) _⟩
end Go.Proofs.YtfekggmdhmkemaaDoor
