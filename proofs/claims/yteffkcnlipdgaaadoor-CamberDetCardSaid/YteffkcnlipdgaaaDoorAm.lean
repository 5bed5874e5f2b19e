/- The walks of slices.Index and slices.Contains over lists of three numbers; of the law's same. -/
import Derived.Test.YteffkcnlipdgaaaDoorAl
namespace Go.Proofs.YteffkcnlipdgaaaDoor
open Go.RowKit
set_option linter.unusedVariables false
set_option linter.unusedSimpArgs false

theorem eq3_ev (x y : Int × Int × Int) : eq3 x.1 x.2.1 x.2.2 y.1 y.2.1 y.2.2 = decide (x = y) := by
  obtain ⟨a, b, c⟩ := x
  obtain ⟨d, e, f⟩ := y
  rw [Bool.eq_iff_iff, eq3_iff, decide_eq_true_iff]
  simp
set_option maxHeartbeats 4000000 in
set_option maxRecDepth 20000 in
theorem Index_c (A : Option Addr) (c : Nat) (l : List Ed) (x : Ed) (w : World) (hv : RdE w (.slice A l.length c) l) :
    Calls Tryd.prog 48 #[.slice A l.length c, .agg #[.int .i64 x.1, .int .i64 x.2.1, .int .i64 x.2.2]] w fun e w' => ∃ i : Int, e = .returned (.int .i64 i) ∧ decide (0 ≤ i) = decide (x ∈ l) ∧ Keeps w w' := by
  obtain ⟨A', c', hA, hm, hcs⟩ := id hv
  cases hA
  unfold maxLen at hm
  have hk0 : Keeps w (w.alloc (.cells #[.int .i64 x.1, .int .i64 x.2.1, .int .i64 x.2.2] 22)) := Keeps.alloc (Below.refl _ _) _
  have hX : At (w.alloc (.cells #[.int .i64 x.1, .int .i64 x.2.1, .int .i64 x.2.2] 22)) w.heap.size 22 (ev x) := At.new w _ _
  go_enter Tryd.func48, Tryd.ntmps48
  go_wp2_with fail
  go_loopw [8] (fun s8 wr => ∃ k : Nat, k ≤ l.length ∧ s8 = .int .i64 k ∧ x ∉ l.take k ∧ Keeps w wr ∧ At wr w.heap.size 22 (ev x)) (fun s8 _ => l.length - (intOf s8).toNat)
  case atStart => exact ⟨0, Nat.zero_le _, rfl, by simp, hk0, hX⟩
  case round =>
    obtain ⟨k, hk, rfl, hn, hkr, hat⟩ := hrel
    by_cases hlt : k < l.length
    · have hkI : (k : Int) < l.length := by omega
      have hlk : l[k]? = some l[k] := List.getElem?_eq_getElem hlt
      obtain ⟨b, off, hA, c0, c1, c2⟩ := hcs k l[k] hlk
      subst hA
      have c0 := cell_keep c0 hkr
      have c1 := cell_keep c1 hkr
      have c2 := cell_keep c2 hkr
      have p1 := (row_ev hat).1
      have p2 := (row_ev hat).2.1
      have p3 := (row_ev hat).2.2
      have heq := eq3_arr x.1 x.2.1 x.2.2 l[k].1 l[k].2.1 l[k].2.2
      rw [eq3_ev] at heq
      generalize hy : l[k] = y at *
      by_cases hxy : x = y
      · rw [decide_eq_true hxy] at heq
        have hmem : decide (x ∈ l) = true := by
          rw [decide_eq_true_iff, hxy, ← hy]
          exact List.getElem_mem _
        have Hmem := Lib.hid hmem
        clear hv hcs hy hlk hxy hmem hX hk0 hn
        go_wp2_with fail
        go_quiet (fail)
        go_wp2_with fail
        go_ret
        exact ⟨(k : Int), rfl, by rw [Hmem.out]; simp, below_drewN (n := nq) hkr⟩
      · rw [decide_eq_false hxy] at heq
        have hn2 : x ∉ l.take (k + 1) := by
          rw [take_at l k y (by rw [hlk])]
          intro h
          rcases List.mem_append.1 h with h | h
          · exact hn h
          · simp at h; exact hxy h
        have Hn2 := Lib.hid hn2
        clear hv hcs hy hlk hxy hn2 hX hk0 hn
        go_wp2_with fail
        go_quiet (fail)
        go_wp2_with fail
        go_roundw
        case rel => exact ⟨k + 1, by omega, by go_num, Hn2.out, below_drewN (n := nq) hkr, hat.drewN nq⟩
        case measure => simp [intOf]; omega
    · obtain rfl : k = l.length := by omega
      rw [List.take_of_length_le (Nat.le_refl _)] at hn
      have Hn := Lib.hid hn
      clear hn
      go_wp2_with fail
      go_ret
      exact ⟨-1, rfl, by rw [decide_eq_false Hn.out]; rfl, hkr⟩
set_option maxHeartbeats 1000000 in
theorem Contains_c (A : Option Addr) (c : Nat) (l : List Ed) (x : Ed) (w : World) (hv : RdE w (.slice A l.length c) l) :
    Calls Tryd.prog 37 #[.slice A l.length c, .agg #[.int .i64 x.1, .int .i64 x.2.1, .int .i64 x.2.2]] w fun e w' => e = .returned (.bool (decide (x ∈ l))) ∧ Keeps w w' := by
  have hk0 : Keeps w (w.alloc (.cells #[.int .i64 x.1, .int .i64 x.2.1, .int .i64 x.2.2] 22)) := Keeps.alloc (Below.refl _ _) _
  have cI := Index_c A c l x _ (hv.below hk0)
  go_enter Tryd.func37, Tryd.ntmps37
  go_wp2_with (go_at_call 48; refine cI.mono ?_; rintro e w1 ⟨i, rfl, h1, h2⟩)
  go_ret
  exact ⟨rfl, Keeps.next hk0 h2⟩
set_option maxHeartbeats 4000000 in
set_option maxRecDepth 20000 in
theorem same_c (A B : Option Addr) (c d : Nat) (l m : List Ed) (w : World) (hv : RdE w (.slice A l.length c) l) (hu : RdE w (.slice B m.length d) m) :
    Calls Tryd.prog 29 #[.slice A l.length c, .slice B m.length d] w fun e w' => e = .returned (.bool (decide (l = m))) ∧ Keeps w w' := by
  obtain ⟨A', c', hA, hm, hcs⟩ := id hv
  cases hA
  obtain ⟨B', d', hB, hm2, hds⟩ := id hu
  cases hB
  unfold maxLen at hm hm2
  by_cases hlen : l.length = m.length
  · have hle : decide ((l.length : Int) = m.length) = true := by simp; omega
    go_enter Tryd.func29, Tryd.ntmps29
    go_wp2_with fail
    go_loopw [5] (fun s5 wr => ∃ k : Nat, k ≤ l.length ∧ s5 = .int .i64 k ∧ l.take k = m.take k ∧ Keeps w wr) (fun s5 _ => l.length - (intOf s5).toNat)
    case atStart => exact ⟨0, Nat.zero_le _, rfl, rfl, Below.refl _ _⟩
    case round =>
      obtain ⟨k, hk, rfl, hn, hkr⟩ := hrel
      by_cases hlt : k < l.length
      · have hkI : (k : Int) < l.length := by omega
        have hkJ : (k : Int) < m.length := by omega
        have hlk : l[k]? = some l[k] := List.getElem?_eq_getElem hlt
        have hmk : m[k]? = some (m[k]'(by omega)) := List.getElem?_eq_getElem (by omega)
        obtain ⟨b, off, hA, c0, c1, c2⟩ := hcs k _ hlk
        subst hA
        obtain ⟨b2, off2, hB, d0, d1, d2⟩ := hds k _ hmk
        subst hB
        have c0 := cell_keep c0 hkr
        have c1 := cell_keep c1 hkr
        have c2 := cell_keep c2 hkr
        have d0 := cell_keep d0 hkr
        have d1 := cell_keep d1 hkr
        have d2 := cell_keep d2 hkr
        generalize hx : l[k] = x at *
        generalize hy : m[k]'(by omega) = y at *
        have heq := eq3_arr x.1 x.2.1 x.2.2 y.1 y.2.1 y.2.2
        rw [eq3_ev] at heq
        by_cases hxy : x = y
        · rw [decide_eq_true hxy] at heq
          have hn2 : l.take (k + 1) = m.take (k + 1) := by rw [take_at l k x hlk, take_at m k y hmk, hn, hxy]
          have Hn2 := Lib.hid hn2
          clear hv hu hcs hds hx hy hlk hmk hxy hn2 hn hle hlen
          go_wp2_with fail
          go_quiet (fail)
          go_wp2_with fail
          go_roundw
          case rel => exact ⟨k + 1, by omega, by go_num, Hn2.out, below_drewN (n := nq) hkr⟩
          case measure => simp [intOf]; omega
        · rw [decide_eq_false hxy] at heq
          have hne : l ≠ m := by
            intro h
            subst h
            rw [hlk] at hmk
            exact hxy (Option.some.inj hmk)
          have Hne := Lib.hid hne
          clear hv hu hcs hds hx hy hlk hmk hxy hn hle hlen hne
          go_wp2_with fail
          go_quiet (fail)
          go_wp2_with fail
          go_ret
          exact ⟨by rw [decide_eq_false Hne.out]; rfl, below_drewN (n := nq) hkr⟩
      · obtain rfl : k = l.length := by omega
        rw [List.take_of_length_le (Nat.le_refl _), List.take_of_length_le (by omega)] at hn
        have Hn := Lib.hid hn
        clear hn
        go_wp2_with fail
        go_ret
        exact ⟨by rw [decide_eq_true Hn.out]; rfl, hkr⟩
  · have hle : decide ((l.length : Int) = m.length) = false := by simp; omega
    have hne : l ≠ m := fun h => hlen (by rw [h])
    have Hne := Lib.hid hne
    have hle2 : ((l.length : Int) == m.length) = false := by simp; omega
    have hle3 : decide (l.length = m.length) = false := decide_eq_false hlen
    have hle4 : (l.length == m.length) = false := by simpa using hlen
    clear hne hlen
    go_enter Tryd.func29, Tryd.ntmps29
    go_wp2_with fail
    go_ret
    exact ⟨by rw [decide_eq_false Hne.out]; rfl, Below.refl _ _⟩
end Go.Proofs.YteffkcnlipdgaaaDoor
