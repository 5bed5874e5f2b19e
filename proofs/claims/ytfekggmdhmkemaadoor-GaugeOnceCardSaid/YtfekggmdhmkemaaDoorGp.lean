/- The walks of Text, Value, Plain where they succeed. -/
import Derived.Test.YtfekggmdhmkemaaDoorGo
import Derived.Test.YtfekggmdhmkemaaDoorGl
import Derived.Test.YtfekggmdhmkemaaDoorGm
import Derived.Test.YtfekggmdhmkemaaDoorGg
namespace Go.Proofs.YtfekggmdhmkemaaDoor
open Go.RowKit
set_option linter.unusedVariables false
set_option linter.unusedSimpArgs false

theorem sign_v (x : Int × Int) (h : sm2 1000000000 x) (w : World) : Calls Tryd.prog 44 #[.agg (gv x)] w fun e w' => e = .returned (.int .i64 (sgn x.1 x.2)) ∧ Keeps w w' := sign_c x.1 x.2 h.1 h.2 w
set_option maxHeartbeats 1000000 in
theorem Text_yes (x : Int × Int) (hx : numB x.1 x.2 = true) (h0 : 0 ≤ sgn x.1 x.2) (w : World) :
    Calls Tryd.prog 26 #[.agg (gv x)] w fun e w' => e = .returned (.tuple #[.string ⟨(textG x).toArray⟩, .int .i64 0]) ∧ Keeps w w' := by
  have i1 := fun z => isNumber_v x z
  rw [hx] at i1
  have sx := sm2_of hx
  have s1 := fun z => sign_v x (sm2_mono sx (by decide)) z
  have p1 := fun z => plainText_c x sx z
  have hd : decide (sgn x.1 x.2 < 0) = false := by rw [decide_eq_false_iff_not]; omega
  have a0 := At.new w 24 (gv x)
  have k0 : Keeps w (w.alloc (.cells (gv x) 24)) := Keeps.alloc (Below.refl _ _) _
  clear hx h0 sx
  change Calls Tryd.prog 26 #[.agg #[.int .i64 x.1, .int .i64 x.2]] w _
  go_enter Tryd.func26, Tryd.ntmps26
  go_wp2_with (first
    | (refine load_row_w rfl 24 _ rfl w.heap.size rfl 24 (gv x) _ _ a0 Tryd.underlying24 rfl (sizeV _) ?_)
    | (refine load_row_w rfl 24 _ rfl w.heap.size rfl 24 (gv x) _ _ a1 Tryd.underlying24 rfl (sizeV _) ?_)
    | (refine load_row_w rfl 24 _ rfl w.heap.size rfl 24 (gv x) _ _ a2 Tryd.underlying24 rfl (sizeV _) ?_)
    | (go_at_call 38; refine (i1 _).mono ?_; rintro e w1 ⟨rfl, b1⟩; have a1 := a0.later b1)
    | (go_at_call 44; refine (s1 _).mono ?_; rintro e w2 ⟨rfl, b2⟩; have a2 := a1.later b2)
    | (go_at_call 24; refine (p1 _).mono ?_; rintro e w3 ⟨rfl, b3⟩))
  go_ret2
  exact ⟨rfl, Keeps.next (Keeps.next (Keeps.next k0 b1) b2) b3⟩
set_option maxHeartbeats 1000000 in
theorem Value_one (F : List UInt8) (hF : ∀ c ∈ F, okD c) (h1 : 1 ≤ F.length) (h40 : F.length ≤ 40) (w : World) :
    Calls Tryd.prog 9 #[.string ⟨F.toArray⟩] w fun e w' => e = .returned (.tuple #[.agg (gv (nofV (valG (digL F [])))), .int .i64 (nofE (valG (digL F [])))]) ∧ Keeps w w' := by
  have r1 := fun z => read_one F hF h1 h40 z
  have hdl : (digL F []).length = 80 := by simp [digL]; omega
  have hok : ∀ c ∈ digL F [], okD c := by
    intro c hc
    simp only [digL, List.mem_append, List.mem_replicate] at hc
    rcases hc with (hc | hc) | (hc | hc)
    · exact .inl hc.2
    · exact hF c hc
    · cases hc
    · exact .inl hc.2
  have v1 := fun z => value_c (digL F []) hdl hok z
  have n1 := fun z => numberOrFull_c (valG (digL F [])) z
  have hz : Tryd.zeroCells44 = dB (List.replicate 80 0) := by kernel_rfl
  have a0 := At.new w 24 (gv (0, 0))
  have k0 : Keeps w (w.alloc (.cells (gv (0, 0)) 24)) := Keeps.alloc (Below.refl _ _) _
  have Hz := Lib.hid hz
  have Hd := Lib.hid hdl
  clear hz hdl hok hF h1 h40
  generalize nofV (valG (digL F [])) = nv at *
  generalize nofE (valG (digL F [])) = ne at *
  generalize valG (digL F []) = vv at *
  generalize digL F [] = D at *
  go_enter Tryd.func9, Tryd.ntmps9
  go_wp2_with (first
    | (go_at_call 21
       refine (r1 _).mono ?_
       rintro e w1 ⟨rfl, b1⟩
       have a1 := a0.later b1
       have g1 : At (w1.alloc (.cells Tryd.zeroCells44 44)) w1.heap.size 44 (dB (List.replicate 80 0)) := by rw [← Hz.out]; exact At.new w1 _ _
       have a2 := (a1.alloc (.cells Tryd.zeroCells44 44)).rowfar (by have := a1.lt; omega) (dB D) (g' := w1.heap.size)
       have g2 := g1.row (dB D)
       have k1 := Keeps.next k0 b1
       have k2 := below_row (Keeps.alloc k1 (.cells Tryd.zeroCells44 44)) k1.size (dB D))
    | (refine wpList_store_row rfl 44 _ _ rfl w1.heap.size (dB D) rfl rfl 44 _ g1 (sizeD _ Hd.out) (by rw [dB_size, dB_size, Hd.out]; simp) (oneD _) ?_)
    | (refine wpList_load_row rfl 44 _ rfl w1.heap.size rfl 44 _ _ _ g2 Tryd.underlying44 rfl (sizeD _ Hd.out) ?_)
    | (go_at_call 23
       refine (v1 _).mono ?_
       rintro e w3 ⟨rfl, b3⟩
       have a3 := a2.later b3
       have k3 := Keeps.next k2 b3)
    | (go_at_call 22
       refine (n1 _).mono ?_
       rintro e w4 ⟨rfl, b4⟩
       have a4 := a3.later b4
       have k4 := Keeps.next k3 b4)
    | (refine wpList_store_row rfl 24 _ _ rfl w.heap.size (gv nv) rfl rfl 24 _ a4 (sizeV _) rfl (oneV _) ?_))
  exact bodyPost_ret (results_row_tmp Tryd.results9 _ _ w.heap.size _ _ _ rfl (a4.row _) Tryd.underlying24 rfl (sizeV _)) rfl ⟨rfl, below_row k4 (Nat.le_refl _) _⟩
set_option maxHeartbeats 1000000 in
theorem Plain_one (F : List UInt8) (hF : ∀ c ∈ F, okD c) (h1 : 1 ≤ F.length) (h40 : F.length ≤ 40) (hn : numB (valG (digL F [])).1 (valG (digL F [])).2 = true) (w : World) :
    Calls Tryd.prog 10 #[.string ⟨F.toArray⟩] w fun e w' => e = .returned (.tuple #[.string ⟨(textG (valG (digL F []))).toArray⟩, .int .i64 0]) ∧ Keeps w w' := by
  have v1 := fun z => Value_one F hF h1 h40 z
  have p1 := fun z => plainText_c (valG (digL F [])) (sm2_of hn) z
  rw [nofV, nofE, if_pos hn, if_pos hn] at v1
  clear hF h1 h40 hn
  generalize (⟨(textG (valG (digL F []))).toArray⟩ : ByteArray) = TT at *
  generalize valG (digL F []) = vv at *
  go_enter Tryd.func10, Tryd.ntmps10
  go_wp2_with (first
    | (go_at_call 9
       refine (v1 _).mono ?_
       rintro e w1 ⟨rfl, b1⟩
       have g1 := At.new w1 24 (gv (0, 0))
       have g2 := g1.row (gv vv)
       have k2 := below_row (Keeps.alloc b1 (.cells (gv (0, 0)) 24)) b1.size (gv vv))
    | (refine wpList_store_row rfl 24 _ _ rfl w1.heap.size (gv vv) rfl rfl 24 _ g1 (sizeV _) rfl (oneV _) ?_)
    | (refine wpList_load_row rfl 24 _ rfl w1.heap.size rfl 24 _ _ _ g2 Tryd.underlying24 rfl (sizeV _) ?_)
    | (go_at_call 24
       refine (p1 _).mono ?_
       rintro e w3 ⟨rfl, b3⟩))
  go_ret2
  exact ⟨rfl, Keeps.next k2 b3⟩
end Go.Proofs.YtfekggmdhmkemaaDoor
