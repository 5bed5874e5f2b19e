/- The walk of newGraphWithSide and of Value. -/
import Derived.Test.YtngonghgkeobhaaBe
namespace Go.Proofs.Ytngonghgkeobhaa
open Go.RowKit
set_option linter.unusedVariables false
set_option linter.unusedSimpArgs false

theorem newGraph_no (n : Int) (v : Value) (l : List Ed) (hg : graphB n l = false) (w : World) (hv : RdE w v l) :
    Calls Try.prog 33 #[.int .i64 n, v] w fun e w' => e = .returned (.tuple #[.pointer none, .bool false]) ∧ Keeps w w' := by
  refine (newGraph_c n v l w hv).mono ?_
  rintro e w' (⟨_, h1, h2⟩ | ⟨h1, _⟩)
  · exact ⟨h1, h2⟩
  · rw [hg] at h1; cases h1
theorem newGraph_yes (n : Int) (v : Value) (l : List Ed) (hg : graphB n l = true) (w : World) (hv : RdE w v l) :
    Calls Try.prog 33 #[.int .i64 n, v] w fun e w' => ∃ B, e = .returned (.tuple #[.pointer (some ⟨B, 0, none⟩), .bool true]) ∧ w.heap.size ≤ B ∧ At w' B 103 (gc n v (jK l l.length)) ∧ Keeps w w' := by
  refine (newGraph_c n v l w hv).mono ?_
  rintro e w' (⟨h1, _⟩ | ⟨_, B, h2, h3, h4, h5⟩)
  · rw [hg] at h1; cases h1
  · exact ⟨B, h3, h2, h4, h5⟩
theorem readSide_no (n : Int) (s : ByteArray) (hn : n ≤ 12) (hs : sideB n s = false) (w : World) :
    Calls Try.prog 51 #[.int .i64 n, .string s] w fun e w' => e = .returned (.tuple #[.int .u16 0, .bool false]) ∧ Keeps w w' := by
  refine (readSide_c n s hn w).mono ?_
  rintro e w' ⟨⟨_, h1⟩ | ⟨h1, _⟩, h2⟩
  · exact ⟨h1, h2⟩
  · rw [hs] at h1; cases h1
theorem readSide_yes (n : Int) (s : ByteArray) (hn : n ≤ 12) (hs : sideB n s = true) (w : World) :
    Calls Try.prog 51 #[.int .i64 n, .string s] w fun e w' => e = .returned (.tuple #[.int .u16 (rdS s.data.toList s.size), .bool true]) ∧ Keeps w w' := by
  refine (readSide_c n s hn w).mono ?_
  rintro e w' ⟨⟨h1, _⟩ | ⟨_, h1⟩, h2⟩
  · rw [hs] at h1; cases h1
  · exact ⟨h1, h2⟩
theorem graphB_n {n : Int} {l : List Ed} (h : graphB n l = true) : 1 ≤ n ∧ n ≤ 12 := by
  unfold graphB at h
  simp only [Bool.and_eq_true, decide_eq_true_eq] at h
  exact h.1
theorem graphB_edges {n : Int} {l : List Ed} (h : graphB n l = true) : edgesOk l := by
  have hn := graphB_n h
  unfold graphB at h
  simp only [Bool.and_eq_true, decide_eq_true_eq] at h
  have ha := goodK_all n l _ h.2.2
  rw [List.take_length, List.all_eq_true] at ha
  refine ⟨by omega, fun x hx => ?_⟩
  have := ha x hx
  unfold edgeB at this
  simp only [Bool.and_eq_true, decide_eq_true_eq] at this
  omega
theorem gc_edges {w : World} {B : Nat} {t : TypeId} {n : Int} {v : Value} {J : List Int} (h : At w B t (gc n v J)) : w.cell? ⟨B, 1, none⟩ = some v := by
  rw [At.cell h]; unfold gc; rfl
set_option maxHeartbeats 1000000 in
theorem withSide_noG (n : Int) (v : Value) (l : List Ed) (s : ByteArray) (hg : graphB n l = false) (w : World) (hv : RdE w v l) :
    Calls Try.prog 31 #[.int .i64 n, v, .string s] w fun e w' => e = .returned (.tuple #[.pointer none, .int .u16 0, .bool false]) ∧ Keeps w w' := by
  have c1 := newGraph_no n v l hg w hv
  clear hv hg
  go_enter Try.func31, Try.ntmps31
  go_wp2_with (go_at_call 33; refine c1.mono ?_; rintro e w1 ⟨rfl, b1⟩)
  go_ret3
  exact ⟨rfl, b1⟩
set_option maxHeartbeats 1000000 in
theorem withSide_noS (n : Int) (v : Value) (l : List Ed) (s : ByteArray) (hg : graphB n l = true) (hs : sideB n s = false) (w : World) (hv : RdE w v l) :
    Calls Try.prog 31 #[.int .i64 n, v, .string s] w fun e w' => ∃ B, e = .returned (.tuple #[.pointer (some ⟨B, 0, none⟩), .int .u16 0, .bool false]) ∧ Keeps w w' := by
  have c1 := newGraph_yes n v l hg w hv
  have c2 := fun z => readSide_no n s (graphB_n hg).2 hs z
  clear hv hg hs
  go_enter Try.func31, Try.ntmps31
  go_wp2_with (first
    | (go_at_call 33; refine c1.mono ?_; rintro e w1 ⟨B, rfl, hB, a1, b1⟩; clear c1 a1)
    | (go_at_call 51; refine (c2 _).mono ?_; rintro e w2 ⟨rfl, b2⟩; have k2 := Keeps.next b1 b2))
  go_ret3
  exact ⟨B, rfl, k2⟩
set_option maxHeartbeats 1000000 in
theorem withSide_yes (n : Int) (v : Value) (l : List Ed) (s : ByteArray) (hg : graphB n l = true) (hs : sideB n s = true) (w : World) (hv : RdE w v l) :
    Calls Try.prog 31 #[.int .i64 n, v, .string s] w fun e w' => ∃ B, e = .returned (.tuple #[.pointer (some ⟨B, 0, none⟩), .int .u16 (rdS s.data.toList s.size), .bool true]) ∧ w.heap.size ≤ B ∧ At w' B 103 (gc n v (jK l l.length)) ∧ Keeps w w' := by
  have c1 := newGraph_yes n v l hg w hv
  have c2 := fun z => readSide_yes n s (graphB_n hg).2 hs z
  clear hv hg hs
  generalize gc n v (jK l l.length) = G at *
  go_enter Try.func31, Try.ntmps31
  go_wp2_with (first
    | (go_at_call 33; refine c1.mono ?_; rintro e w1 ⟨B, rfl, hB, a1, b1⟩; clear c1)
    | (go_at_call 51; refine (c2 _).mono ?_; rintro e w2 ⟨rfl, b2⟩; have k2 := Keeps.next b1 b2; have a2 := a1.later b2))
  go_ret3
  exact ⟨B, rfl, hB, a2, k2⟩
set_option maxHeartbeats 1000000 in
theorem Value_no (n : Int) (v : Value) (l : List Ed) (s : ByteArray) (h : (graphB n l && sideB n s) = false) (w : World) (hv : RdE w v l) :
    Calls Try.prog 12 #[.int .i64 n, v, .string s] w fun e w' => e = .returned (.tuple #[.int .i64 0, .int .i64 2]) ∧ Keeps w w' := by
  cases hg : graphB n l
  · have c1 := withSide_noG n v l s hg w hv
    clear hv hg h
    go_enter Try.func12, Try.ntmps12
    go_wp2_with (go_at_call 31; refine c1.mono ?_; rintro e w1 ⟨rfl, b1⟩)
    go_ret2
    exact ⟨rfl, b1⟩
  · rw [hg, Bool.true_and] at h
    have c1 := withSide_noS n v l s hg h w hv
    clear hv hg h
    go_enter Try.func12, Try.ntmps12
    go_wp2_with (go_at_call 31; refine c1.mono ?_; rintro e w1 ⟨B, rfl, b1⟩)
    go_ret2
    exact ⟨rfl, b1⟩
set_option maxHeartbeats 1000000 in
theorem Value_yes (n : Int) (v : Value) (l : List Ed) (s : ByteArray) (hg : graphB n l = true) (hs : sideB n s = true) (w : World) (hv : RdE w v l) :
    Calls Try.prog 12 #[.int .i64 n, v, .string s] w fun e w' => e = .returned (.tuple #[.int .i64 (valL (rdS s.data.toList s.size) l), .int .i64 0]) ∧ Keeps w w' := by
  have c1 := withSide_yes n v l s hg hs w hv
  have hE := graphB_edges hg
  have hr := rdS_lt s.data.toList s.size
  have c2 := fun B z q => value_c B (rdS s.data.toList s.size) v l hE hr z q
  clear hg hs
  have HV := Lib.hid hv
  clear hv
  generalize rdS s.data.toList s.size = S at *
  go_enter Try.func12, Try.ntmps12
  go_wp2_with (first
    | (go_at_call 31; refine c1.mono ?_; rintro e w1 ⟨B, rfl, hB, a1, b1⟩; have q1 := gc_edges a1; clear c1 a1)
    | (go_at_call 32; refine (c2 _ _ q1 (HV.out.below b1)).mono ?_; rintro e w2 ⟨rfl, b2⟩; have k2 := Keeps.next b1 b2))
  go_ret2
  exact ⟨rfl, k2⟩
end Go.Proofs.Ytngonghgkeobhaa
