/- The walk of read for texts that are right. -/
import Derived.Test.YtfekggmdhmkemaaDoorGk
namespace Go.Proofs.YtfekggmdhmkemaaDoor
open Go.RowKit
set_option linter.unusedVariables false
set_option linter.unusedSimpArgs false

theorem results_row_cell {P : Program} {fn : Func} {p q : Tmp} {ty tq : TypeId} (hr : fn.results = #[.cell p ty, .cell q tq]) (tmps : Array Value) (w : World) (g : Nat) (cs : Array Value) (t : TypeId) (d : TypeDesc) (b : Addr) (v : Value)
    (hp : tmps.getD p undef = .pointer (some ⟨g, 0, none⟩)) (hq : tmps.getD q undef = .pointer (some b)) (hg : At w g t cs) (hu : P.underlying ty = some d) (hd : (match d with | .struct _ | .array _ _ => true | _ => false) = true)
    (hi : (P.info? ty).map (·.size) = some cs.size) (hagg : (isAgg tq).run P w = .ok false w) (hc : w.cell? b = some v) : (results fn tmps).run P w = .ok (.tuple #[.agg cs, v]) w := by
  have e : (results fn tmps).run P w = ((asAddr (tmps.getD p undef)).run P w).andThen fun a w₁ => ((loadVar ty a).run P w₁).andThen fun v w₂ => ((asAddr (tmps.getD q undef)).run P w₂).andThen fun a' w₃ => ((loadVar tq a').run P w₃).andThen fun v' w₄ => .ok (.tuple #[v, v']) w₄ := by
    simp only [results, hr]
    simp [Sem.run_bind, Result.andThen]
  rw [e, hp, hq]
  simp only [asAddr, Sem.run_pure, Result.andThen_ok]
  rw [run_loadVar_row w g t ty cs (0, 0) d hg hu hd hi]
  simp [loadVar, Sem.run_bind, hagg, load, Sem.run, hc, Result.andThen]
set_option maxHeartbeats 2000000 in
set_option maxRecDepth 100000 in
theorem read_one (F : List UInt8) (hF : ∀ c ∈ F, okD c) (h1 : 1 ≤ F.length) (h40 : F.length ≤ 40) (w : World) :
    Calls Tryd.prog 21 #[.string ⟨F.toArray⟩] w fun e w' => e = .returned (.tuple #[.agg (dB (digL F [])), .int .i64 0]) ∧ Keeps w w' := by
  have hmf : ∀ (fn : Fn) (first cap : Array Value) (w : World), (Instr.makeFunc fn first cap).run Tryd.prog w = .ok (.func fn first cap) w := fun _ _ _ _ => rfl
  have hz : Tryd.zeroCells44 = dB (List.replicate 80 0) := by kernel_rfl
  obtain ⟨X, hX⟩ : ∃ X, ((w.alloc (.cells Tryd.zeroCells44 44)).alloc (.cells #[.int .i64 0] 25)).alloc (.cells #[.string ⟨F.toArray⟩] 60) = X := ⟨_, rfl⟩
  have h0 : At X w.heap.size 44 (dB (List.replicate 80 0)) := by rw [← hX, ← hz]; exact ((At.new w _ _).alloc _).alloc _
  have h1' : At X (w.heap.size + 1) 25 #[.int .i64 0] := by rw [← hX]; exact (At.new2 w _ _ _).alloc _
  have h2 : At X (w.heap.size + 1 + 1) 60 #[.string ⟨(F ++ []).toArray⟩] := by rw [← hX, List.append_nil]; exact At.new3 w _ _ _ _
  have hk : Keeps w X := by rw [← hX]; exact Keeps.alloc (Keeps.alloc (Keeps.alloc (Below.refl _ _) _) _) _
  have HX := Lib.hid hX
  have hrun := fun x hx => run_yes (w.heap.size + 1 + 1) F [] hF (fun c h => by cases h) h1 h40 (by simp) x hx
  have hpt := fun x hx => point_c (w.heap.size + 1 + 1) [] x hx
  rw [show Lib.hasPrefix [] [46] = false from rfl, show Lib.trimPrefix [] [46] = [] from rfl] at hpt
  have hen := fun x hx => end_c (w.heap.size + 1 + 1) x hx
  have hnd := fun x => newDigits_c ⟨F.toArray⟩ ⟨#[]⟩ (by show F.toArray.size ≤ 40; simpa using h40) (by decide) x
  rw [show (⟨F.toArray⟩ : ByteArray).data.toList = F from List.toList_toArray, show (⟨#[]⟩ : ByteArray).data.toList = [] from rfl] at hnd
  have hdl : (digL F []).length = 80 := by simp [digL]; omega
  have Hd := Lib.hid hdl
  clear hz hX hdl hF h1 h40
  generalize digL F [] = D at *
  go_enter_defers Tryd.func21, Tryd.ntmps21
  go_upto_region 3 with (fail)
  rw [HX.out]
  go_wp2_with (first
    | (go_at_call 34
       refine (hrun _ h2).mono ?_
       rintro e w1 ⟨rfl, a1, k1⟩
       have b0 := h0.holds k1 (by omega)
       have b1 := h1'.holds k1 (by omega))
    | (go_at_call 35
       refine (hpt _ a1).mono ?_
       rintro e w2 ⟨rfl, a2, k2⟩
       have c0 := b0.holds k2 (by omega)
       have c1 := b1.holds k2 (by omega))
    | (go_at_call 36
       refine (hen _ a2).mono ?_
       rintro e w3 ⟨rfl, rfl⟩)
    | (go_at_call 37
       refine (hnd _).mono ?_
       rintro e w4 ⟨rfl, k4⟩
       have d0 := c0.later k4
       have d1 := (c1.later k4).rowfar (by omega) (dB D) (g' := w.heap.size)
       have f1 := d1.frozen 0
       have e1 := d1.cell 0
       simp only [List.getElem?_toArray, List.getElem?_cons_zero] at e1)
    | (refine wpList_store_row rfl 44 _ _ rfl w.heap.size (dB D) rfl rfl 44 _ d0 (sizeD _ Hd.out) (by rw [dB_size, dB_size, Hd.out]; simp) (oneD _) ?_))
  refine leaves_cons (f := 33) (args := #[.pointer (some ⟨w.heap.size, 0, none⟩), .pointer (some ⟨w.heap.size + 1, 0, none⟩)]) (by simp) (by simp [go_sem]) ?_
  refine (catch_idle _ _ _).mono ?_
  rintro e u' w' ⟨rfl, rfl, rfl⟩
  have z0 := ((d0.row (dB D)).far (p := ⟨w.heap.size + 1, 0, none⟩) (by simp) (.int .i64 0))
  have z1 := d1.set 0 (.int .i64 0)
  refine ⟨_, results_row_cell Tryd.results21 _ _ w.heap.size _ _ _ ⟨w.heap.size + 1, 0, none⟩ (.int .i64 0) rfl rfl z0 Tryd.underlying44 rfl (sizeD _ Hd.out) (Tryd.isAgg25 _) (by rw [z1.cell]; rfl), rfl, ?_⟩
  have kk : Holds (fun r => r < w.heap.size) w w2 := ((Holds.of_keeps hk _).trans (k1.mono (fun r _ h => by omega))).trans (k2.mono (fun r _ h => by omega))
  exact (((kk.trans (Holds.of_keeps k4 _)).row _ (by omega) _).set _ (by simp) _).below (Nat.le_refl _)
end Go.Proofs.YtfekggmdhmkemaaDoor
