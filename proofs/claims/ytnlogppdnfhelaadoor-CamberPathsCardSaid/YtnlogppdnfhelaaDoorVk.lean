/- The reference's Path; the law of Paths. -/
import Derived.Test.YtnlogppdnfhelaaDoorVj
namespace Go.Proofs.YtnlogppdnfhelaaDoor
open Go.RowKit
set_option linter.unusedVariables false
set_option linter.unusedSimpArgs false

set_option maxHeartbeats 8000000 in
set_option maxRecDepth 20000 in
theorem refPath_c (x y z : Int) (hT : Tri x y z) (h5 : 5 ≤ z) (w : World) :
    Calls Tryd.prog 19 #[.agg #[.int .i64 x, .int .i64 y, .int .i64 z]] w fun e w' => e = .returned (.tuple #[.string ⟨(pth (x, y, z)).toArray⟩, .bool true]) ∧ Keeps w w' := by
  have hX : At (w.alloc (.cells #[.int .i64 x, .int .i64 y, .int .i64 z] 22)) w.heap.size 22 (ev (x, y, z)) := At.new w _ _
  have hk : Keeps w (w.alloc (.cells #[.int .i64 x, .int .i64 y, .int .i64 z] 22)) := Keeps.alloc (Below.refl _ _) _
  have hz9 : z ≤ 1000000000 := hT.1.2.2.2
  have hTT : TriT (x, y, z) := hT
  generalize hP : pth (x, y, z) = P
  have HP := Lib.hid hP
  have H5 := Lib.hid h5
  clear hP h5 hT
  go_enter Tryd.func19, Tryd.ntmps19
  go_wp2_with fail
  go_loopw [4] (fun u wr => ∃ (t : Int × Int × Int) (acc : List UInt8), u = .string ⟨acc.toArray⟩ ∧ TriT t ∧ 5 ≤ t.2.2 ∧ pth t ++ acc = P ∧ acc.length + t.2.2.toNat ≤ z.toNat ∧ At wr w.heap.size 22 (ev t) ∧ Keeps w wr) (fun u _ => z.toNat - strLen u)
  case atStart => exact ⟨(x, y, z), [], rfl, hTT, H5.out, by rw [List.append_nil]; exact HP.out, by simp, hX, hk⟩
  case round =>
    obtain ⟨t, acc, rfl, ht, ht5, hp, hl, hat, hkr⟩ := hrel
    obtain ⟨a, b, c⟩ := t
    have p1 := (row_six hat).1
    have p2 := (row_six hat).2.1
    have p3 := (row_six hat).2.2.1
    by_cases hc : 5 < c
    · have he : (a, b, c) ≠ ((1, 2, 5) : Int × Int × Int) := by intro h; injection h with e1 h; injection h with e2 e3; omega
      obtain ⟨hs1, hs2, hs3, hs4⟩ := pth_step ht ht5 he
      have hc9 : c ≤ 1000000000 := ht.1.2.2.2
      have hsz := hkr.size
      have hatl := hat.lt
      have cU := fun W => refEx2_c a b c ht W
      have cL := fun W => refEx0_c (upT (a, b, c)).1 (upT (a, b, c)).2.1 (upT (a, b, c)).2.2 hs2 W
      have hlt2 : ltr (a, b, c) = if leftT (upT (a, b, c)) = (a, b, c) then 76 else 82 := rfl
      generalize upT (a, b, c) = p at *
      generalize decide (p.2.2 ≤ 1000000000) = D at *
      have hLe : leftT (p.1, p.2.1, p.2.2) = leftT p := rfl
      rw [hLe] at cL
      generalize leftT p = l at *
      obtain ⟨p1', p2', p3'⟩ := p
      obtain ⟨l1, l2, l3⟩ := l
      simp only at cU cL hs3 hs4
      have hq := eq3_arr l1 l2 l3 a b c
      rw [eq3_ev (l1, l2, l3) (a, b, c)] at hq
      have hla : acc.length ≤ 1000000000 := by omega
      have ad : ∀ q : UInt8, ∀ W, (Op.stringOp .add ⟨#[q]⟩ ⟨acc.toArray⟩).run Tryd.prog W = .ok (.string ⟨(q :: acc).toArray⟩) W := fun q W => run_add [q] acc (by simp; omega)
      have hgt : decide (5 < c) = true := by simpa using hc
      clear he HP H5 hTT hX hk ht
      by_cases hlt : (l1, l2, l3) = (a, b, c)
      · have hok : decide (l3 ≤ 1000000000) = true := by injection hlt with e1 h; injection h with e2 e3; simp; omega
        rw [decide_eq_true hlt] at hq
        rw [if_pos hlt] at hlt2
        rw [hok] at cL
        clear hlt hok
        have ad9 := ad 76
        have HLT := Lib.hid hlt2
        clear hlt2 ad
        go_wp2_with (first
          | (go_at_call 13; (with_reducible refine (cU _).mono ?_); rintro e w1 ⟨rfl, h1⟩; have k1 : Keeps w (w1.alloc (.cells #[.int .i64 p1', .int .i64 p2', .int .i64 p3'] 22)) := Keeps.alloc (Keeps.next hkr h1) _; have hX1 := (hat.later h1).alloc (.cells #[.int .i64 p1', .int .i64 p2', .int .i64 p3'] 22); have hp1 := At.new w1 22 #[.int .i64 p1', .int .i64 p2', .int .i64 p3'])
          | (go_at_call 13; (with_reducible refine (cL _).mono ?_); rintro e w2 ⟨rfl, h2⟩; have k2 : Keeps w (w2.alloc (.cells #[.int .i64 l1, .int .i64 l2, .int .i64 l3] 22)) := Keeps.alloc (Keeps.next k1 h2) _; have hX2 := (hX1.later h2).alloc (.cells #[.int .i64 l1, .int .i64 l2, .int .i64 l3] 22); have hp2 := (hp1.later h2).alloc (.cells #[.int .i64 l1, .int .i64 l2, .int .i64 l3] 22); have hl2 := At.new w2 22 #[.int .i64 l1, .int .i64 l2, .int .i64 l3]; have q1 := (row_six hX2).1; have q2 := (row_six hX2).2.1; have q3 := (row_six hX2).2.2.1; have r1 := (row_six hp2).1; have r2 := (row_six hp2).2.1; have r3 := (row_six hp2).2.2.1; have s1 := (row_six hl2).1; have s2 := (row_six hl2).2.1; have s3 := (row_six hl2).2.2.1)
          | (refine wpList_store_row rfl 22 _ _ rfl w.heap.size #[.int .i64 p1', .int .i64 p2', .int .i64 p3'] rfl rfl 22 (ev (a, b, c)) hX2 (size3 _ _ _) rfl (oneT _ _ _) ?_))
        have h9 := hX2.row #[.int .i64 p1', .int .i64 p2', .int .i64 p3']
        go_roundw
        case rel => exact ⟨_, _, _, _, _, _, _, _, _, _, _, _, _, _, _, _, _, _, _, _, _, _, _, _, _, _, _, _, _, ⟨(p1', p2', p3'), 76 :: acc, rfl, hs2, hs3, by rw [← hp, hs1, HLT.out]; simp, by simp only [List.length_cons]; omega, h9, below_row k2 (by omega) _⟩, rfl⟩
        case measure =>
          show z.toNat - (76 :: acc).length < z.toNat - acc.length
          simp only [List.length_cons]
          omega
      · by_cases hok : l3 ≤ 1000000000
        · rw [decide_eq_false hlt] at hq
          rw [if_neg hlt] at hlt2
          rw [decide_eq_true hok] at cL
          clear hlt hok
          have ad9 := ad 82
          have HLT := Lib.hid hlt2
          clear hlt2 ad
          go_wp2_with (first
            | (go_at_call 13; (with_reducible refine (cU _).mono ?_); rintro e w1 ⟨rfl, h1⟩; have k1 : Keeps w (w1.alloc (.cells #[.int .i64 p1', .int .i64 p2', .int .i64 p3'] 22)) := Keeps.alloc (Keeps.next hkr h1) _; have hX1 := (hat.later h1).alloc (.cells #[.int .i64 p1', .int .i64 p2', .int .i64 p3'] 22); have hp1 := At.new w1 22 #[.int .i64 p1', .int .i64 p2', .int .i64 p3'])
            | (go_at_call 13; (with_reducible refine (cL _).mono ?_); rintro e w2 ⟨rfl, h2⟩; have k2 : Keeps w (w2.alloc (.cells #[.int .i64 l1, .int .i64 l2, .int .i64 l3] 22)) := Keeps.alloc (Keeps.next k1 h2) _; have hX2 := (hX1.later h2).alloc (.cells #[.int .i64 l1, .int .i64 l2, .int .i64 l3] 22); have hp2 := (hp1.later h2).alloc (.cells #[.int .i64 l1, .int .i64 l2, .int .i64 l3] 22); have hl2 := At.new w2 22 #[.int .i64 l1, .int .i64 l2, .int .i64 l3]; have q1 := (row_six hX2).1; have q2 := (row_six hX2).2.1; have q3 := (row_six hX2).2.2.1; have r1 := (row_six hp2).1; have r2 := (row_six hp2).2.1; have r3 := (row_six hp2).2.2.1; have s1 := (row_six hl2).1; have s2 := (row_six hl2).2.1; have s3 := (row_six hl2).2.2.1)
            | (refine wpList_store_row rfl 22 _ _ rfl w.heap.size #[.int .i64 p1', .int .i64 p2', .int .i64 p3'] rfl rfl 22 (ev (a, b, c)) hX2 (size3 _ _ _) rfl (oneT _ _ _) ?_))
          have h9 := hX2.row #[.int .i64 p1', .int .i64 p2', .int .i64 p3']
          go_roundw
          case rel => exact ⟨_, _, _, _, _, _, _, _, _, _, _, _, _, _, _, _, _, _, _, _, _, _, _, _, _, _, _, _, _, ⟨(p1', p2', p3'), 82 :: acc, rfl, hs2, hs3, by rw [← hp, hs1, HLT.out]; simp, by simp only [List.length_cons]; omega, h9, below_row k2 (by omega) _⟩, rfl⟩
          case measure =>
            show z.toNat - (82 :: acc).length < z.toNat - acc.length
            simp only [List.length_cons]
            omega
        · rw [decide_eq_false hlt] at hq
          rw [if_neg hlt] at hlt2
          rw [decide_eq_false hok] at cL
          clear hlt hok
          have ad9 := ad 82
          have HLT := Lib.hid hlt2
          clear hlt2 ad
          go_wp2_with (first
            | (go_at_call 13; (with_reducible refine (cU _).mono ?_); rintro e w1 ⟨rfl, h1⟩; have k1 : Keeps w (w1.alloc (.cells #[.int .i64 p1', .int .i64 p2', .int .i64 p3'] 22)) := Keeps.alloc (Keeps.next hkr h1) _; have hX1 := (hat.later h1).alloc (.cells #[.int .i64 p1', .int .i64 p2', .int .i64 p3'] 22); have hp1 := At.new w1 22 #[.int .i64 p1', .int .i64 p2', .int .i64 p3'])
            | (go_at_call 13; (with_reducible refine (cL _).mono ?_); rintro e w2 ⟨rfl, h2⟩; have k2 : Keeps w (w2.alloc (.cells #[.int .i64 l1, .int .i64 l2, .int .i64 l3] 22)) := Keeps.alloc (Keeps.next k1 h2) _; have hX2 := (hX1.later h2).alloc (.cells #[.int .i64 l1, .int .i64 l2, .int .i64 l3] 22); have hp2 := (hp1.later h2).alloc (.cells #[.int .i64 l1, .int .i64 l2, .int .i64 l3] 22); have hl2 := At.new w2 22 #[.int .i64 l1, .int .i64 l2, .int .i64 l3]; have q1 := (row_six hX2).1; have q2 := (row_six hX2).2.1; have q3 := (row_six hX2).2.2.1; have r1 := (row_six hp2).1; have r2 := (row_six hp2).2.1; have r3 := (row_six hp2).2.2.1; have s1 := (row_six hl2).1; have s2 := (row_six hl2).2.1; have s3 := (row_six hl2).2.2.1)
            | (refine wpList_store_row rfl 22 _ _ rfl w.heap.size #[.int .i64 p1', .int .i64 p2', .int .i64 p3'] rfl rfl 22 (ev (a, b, c)) hX2 (size3 _ _ _) rfl (oneT _ _ _) ?_))
          have h9 := hX2.row #[.int .i64 p1', .int .i64 p2', .int .i64 p3']
          go_roundw
          case rel => exact ⟨_, _, _, _, _, _, _, _, _, _, _, _, _, _, _, _, _, _, _, _, _, _, _, _, _, _, _, _, _, ⟨(p1', p2', p3'), 82 :: acc, rfl, hs2, hs3, by rw [← hp, hs1, HLT.out]; simp, by simp only [List.length_cons]; omega, h9, below_row k2 (by omega) _⟩, rfl⟩
          case measure =>
            show z.toNat - (82 :: acc).length < z.toNat - acc.length
            simp only [List.length_cons]
            omega
    · have hc5 : c = 5 := by have h9 : 5 ≤ c := ht5; omega
      have he : (a, b, c) = ((1, 2, 5) : Int × Int × Int) := by
        rcases ht.five ht5 with h | h
        · exact h
        · have := (ht.up (by have h9 : 5 ≤ c := ht5; show 2 ≤ c; omega)).2.2
          simp only at this h
          omega
      have hPa : P = acc := by rw [he, pth_start] at hp; exact hp.symm
      subst hPa
      subst hc5
      clear he hp HP H5 hTT hX hk ht
      go_wp2_with fail
      go_quiet (fail)
      go_wp2_with fail
      go_ret2
      exact ⟨rfl, below_drewN (n := nq) hkr⟩
set_option maxHeartbeats 4000000 in
set_option maxRecDepth 20000 in
theorem refPath_low (x y z : Int) (h5 : z < 5) (w : World) :
    Calls Tryd.prog 19 #[.agg #[.int .i64 x, .int .i64 y, .int .i64 z]] w fun e w' => e = .returned (.tuple #[.string ⟨#[]⟩, .bool false]) ∧ Keeps w w' := by
  have hX := At.new w 22 #[.int .i64 x, .int .i64 y, .int .i64 z]
  have hk : Keeps w (w.alloc (.cells #[.int .i64 x, .int .i64 y, .int .i64 z] 22)) := Keeps.alloc (Below.refl _ _) _
  have hgt : decide (5 < z) = false := by simp; omega
  have hz5 : (z == 5) = false := by simp; omega
  go_enter Tryd.func19, Tryd.ntmps19
  go_wp2_with fail
  go_loopw [4] (fun u wr => u = .string ⟨#[]⟩ ∧ wr = w.alloc (.cells #[.int .i64 x, .int .i64 y, .int .i64 z] 22)) (fun u _ => 0)
  case atStart => exact ⟨rfl, rfl⟩
  case round =>
    obtain ⟨rfl, rfl⟩ := hrel
    go_wp2_with fail
    go_quiet (fail)
    go_wp2_with fail
    go_ret2
    exact ⟨rfl, below_drewN (n := nq) hk⟩
end Go.Proofs.YtnlogppdnfhelaaDoor
