/- The law's awake. -/
import Derived.Test.YtngonghgkeobhaaBu
import Derived.Test.YtngonghgkeobhaaBn
import Derived.Test.YtngonghgkeobhaaBk
namespace Go.Proofs.Ytngonghgkeobhaa
open Go.RowKit Go.Shelf
set_option linter.unusedVariables false
set_option linter.unusedSimpArgs false

def tri : List Ed := [(0, 1, 1), (0, 2, 1), (1, 2, 1)]
def triA : Array Value := #[.int .i64 0, .int .i64 1, .int .i64 1, .int .i64 0, .int .i64 2, .int .i64 1, .int .i64 1, .int .i64 2, .int .i64 1]
theorem tri_rd {w : World} {b : Nat} {t : TypeId} (h : At w b t triA) : RdE w (.slice (some ⟨b, 0, none⟩) 3 3) tri := by
  refine ⟨some ⟨b, 0, none⟩, 3, rfl, by unfold maxLen; decide, fun k x hk => ⟨b, 0, rfl, ?_⟩⟩
  rcases k with _ | _ | _ | k
  · cases hk; exact ⟨h.cell 0, h.cell 1, h.cell 2⟩
  · cases hk; exact ⟨h.cell 3, h.cell 4, h.cell 5⟩
  · cases hk; exact ⟨h.cell 6, h.cell 7, h.cell 8⟩
  · cases hk
set_option maxHeartbeats 1000000 in
theorem triangle_c (w : World) :
    Calls Try.prog 29 #[] w fun e w' => ∃ v, e = .returned v ∧ RdE w' v tri ∧ Keeps w w' := by
  have h := tri_rd (At.new w 28 triA)
  have hk : Keeps w (w.alloc (.cells triA 28)) := Keeps.alloc (Below.refl _ _) _
  unfold triA at h hk
  go_enter Try.func29, Try.ntmps29
  go_wp2_with fail
  go_ret
  exact ⟨_, rfl, h, hk⟩
theorem ev_tri : graphB 3 tri = true ∧ (prp 2).find? (fun s => cutB s tri) = none ∧ (fstO 3 (jK tri 3) 20 3).map (·.1) = some [0, 1, 2] := by decide +kernel
theorem ev_best : txt (bestL 2 tri).1 3 = [48, 48, 49] ∧ (bestL 2 tri).2 = 2 ∧ cntV (fun s => valL s tri) (bestL 2 tri).2 (prp 2) = 3 := by decide +kernel
theorem ev_climb : sideB 3 ⟨#[48, 48, 48]⟩ = true ∧ txt (clmb tri (rdS [48, 48, 48] 3)).1 3 = [49, 48, 48] ∧ (clmb tri (rdS [48, 48, 48] 3)).2 = 1 := by decide +kernel
theorem a_best (X : World) (V : Value) (h : RdE X V tri) : Calls Try.prog 13 #[.int .i64 3, V] X fun e w' => e = .returned (.tuple #[.string { data := #[48, 48, 49] }, .int .i64 2, .int .i64 0]) ∧ Keeps X w' := by
  have := Best_yes 2 V tri ev_tri.1 X h
  rw [ev_best.1, ev_best.2.1] at this
  exact this
theorem a_count (X : World) (V : Value) (h : RdE X V tri) : Calls Try.prog 22 #[.int .i64 3, V] X fun e w' => e = .returned (.tuple #[.int .i64 3, .int .i64 0]) ∧ Keeps X w' := by
  have := Count_yes 2 V tri ev_tri.1 X h
  rw [ev_best.2.2] at this
  exact this
theorem a_odd (X : World) (V : Value) (h : RdE X V tri) : Calls Try.prog 30 #[.int .i64 3, V] X fun e w' => ∃ b c, e = .returned (.tuple #[.slice (some ⟨b, 0, none⟩) 3 c, .int .i64 0]) ∧ RdI w' (.slice (some ⟨b, 0, none⟩) 3 c) [0, 1, 2] ∧ Keeps X w' := by
  obtain ⟨x, hx, hx1⟩ := Option.map_eq_some_iff.1 ev_tri.2.2
  have := Odd_yes 2 V tri ev_tri.1 X h ev_tri.2.1 x hx (by rw [hx1]; decide) (by rw [hx1]; decide)
  rw [hx1] at this
  exact this
theorem a_climb (X : World) (V : Value) (h : RdE X V tri) : Calls Try.prog 16 #[.int .i64 3, V, .string { data := #[48, 48, 48] }] X fun e w' => e = .returned (.tuple #[.string { data := #[49, 48, 48] }, .int .i64 1, .int .i64 0]) ∧ Keeps X w' := by
  have := Climb_yes 3 V tri { data := #[48, 48, 48] } ev_tri.1 ev_climb.1 X h
  have e1 : txt (clmb tri (rdS ({ data := #[48, 48, 48] } : ByteArray).data.toList ({ data := #[48, 48, 48] } : ByteArray).size)).1 3 = [49, 48, 48] := ev_climb.2.1
  have e2 : (clmb tri (rdS ({ data := #[48, 48, 48] } : ByteArray).data.toList ({ data := #[48, 48, 48] } : ByteArray).size)).2 = 1 := ev_climb.2.2
  rw [e1, e2] at this
  exact this
set_option maxHeartbeats 2000000 in
set_option maxRecDepth 100000 in
theorem awake_c (w : World) : Calls Try.prog 10 #[] w fun e w' => e = .returned (.bool true) ∧ Keeps w w' := by
  have hin := fun X v (h : RdI X v [0, 1, 2]) => ints_c v (.slice (some ⟨X.heap.size, 0, none⟩) 3 3) [0, 1, 2] [0, 1, 2] (X.alloc (.cells #[.int .i64 0, .int .i64 1, .int .i64 2] 3)) (h.below (Keeps.alloc (Below.refl _ _) _)) (by
    have := RdI_at (m := 3) (c := 3) (At.new X 3 (ic [0, 1, 2])) (by simp) (by decide)
    exact this)
  go_enter Try.func10, Try.ntmps10
  go_upto_region 2 with (first
    | (go_at_call 29; refine (triangle_c _).mono ?_; rintro e w1 ⟨v1, rfl, hv1, hb1⟩)
    | (go_at_call 13; refine (a_best _ _ hv1).mono ?_; rintro e w2 ⟨rfl, hb2⟩))
  have hk2 := hb1.next hb2
  go_upto_region 3 with (first
    | (go_at_call 29; refine (triangle_c _).mono ?_; rintro e w3 ⟨v3, rfl, hv3, hb3⟩)
    | (go_at_call 22; refine (a_count _ _ hv3).mono ?_; rintro e w4 ⟨rfl, hb4⟩))
  have hk4 := (hk2.next hb3).next hb4
  go_upto_region 4 with (first
    | (go_at_call 29; refine (triangle_c _).mono ?_; rintro e w5 ⟨v5, rfl, hv5, hb5⟩)
    | (go_at_call 30; refine (a_odd _ _ hv5).mono ?_; rintro e w6 ⟨b6, c6, rfl, hr6, hb6⟩))
  have hk6 := (hk4.next hb5).next hb6
  go_upto_region 5 with (first
    | (go_at_call 29; refine (triangle_c _).mono ?_; rintro e w7 ⟨v7, rfl, hv7, hb7⟩)
    | (go_at_call 16; refine (a_climb _ _ hv7).mono ?_; rintro e w8 ⟨rfl, hb8⟩))
  have hk8 := (hk6.next hb7).next hb8
  have hr8 := (hr6.below hb7).below hb8
  clear hb1 hb2 hb3 hb4 hb5 hb6 hb7 hb8 hk2 hk4 hk6 hv1 hv3 hv5 hv7 hr6
  have hi8 := hin _ _ hr8
  rw [decide_true] at hi8
  have k9 : Keeps w (w8.alloc (.cells #[.int .i64 0, .int .i64 1, .int .i64 2] 3)) := Keeps.alloc hk8 _
  clear hin
  go_wp2_with (go_at_call 17; refine hi8.mono ?_; rintro e w9 ⟨rfl, m, rfl⟩)
  go_ret
  exact ⟨rfl, below_drewN k9⟩
end Go.Proofs.Ytngonghgkeobhaa
