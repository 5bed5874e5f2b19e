/- The law Listed. -/
import Derived.Test.YtdlnmmhdgjjcfaaWi
import Derived.Deep.Cut
namespace Go.Proofs.Ytdlnmmhdgjjcfaa
open Go.RowKit Go.Shelf
set_option linter.unusedVariables false
set_option linter.unusedSimpArgs false

theorem cnt_small (d : Nat) (d1 : 1 ≤ d) (d7 : d ≤ 7) : (clrs [] d).length = [0, 1, 2, 4, 12, 40, 116, 200].getD d 0 := by
  rw [clrs_cnt]
  obtain ⟨h1, h2, h3, h4, h5, h6, h7⟩ := cnt_all
  have : d = 1 ∨ d = 2 ∨ d = 3 ∨ d = 4 ∨ d = 5 ∨ d = 6 ∨ d = 7 := by omega
  rcases this with rfl | rfl | rfl | rfl | rfl | rfl | rfl
  · exact h1
  · exact h2
  · exact h3
  · exact h4
  · exact h5
  · exact h6
  · exact h7
theorem index8 (d : Nat) (d1 : 1 ≤ d) (d7 : d ≤ 7) (W : World) :
    (Instr.index 42 (.agg #[.int .i64 0, .int .i64 1, .int .i64 2, .int .i64 4, .int .i64 12, .int .i64 40, .int .i64 116, .int .i64 200]) (.int .i64 d)).run Try.prog W = .ok (.int .i64 (clrs [] d).length) W := by
  rw [cnt_small d d1 d7]
  have : d = 1 ∨ d = 2 ∨ d = 3 ∨ d = 4 ∨ d = 5 ∨ d = 6 ∨ d = 7 := by omega
  rcases this with rfl | rfl | rfl | rfl | rfl | rfl | rfl <;> (show _ = _; kernel_rfl)
theorem cnt_in (d : Nat) (d1 : 1 ≤ d) (d7 : d ≤ 7) : 1 ≤ (clrs [] d).length ∧ (clrs [] d).length ≤ 200 := by
  rw [cnt_small d d1 d7]
  have : d = 1 ∨ d = 2 ∨ d = 3 ∨ d = 4 ∨ d = 5 ∨ d = 6 ∨ d = 7 := by omega
  rcases this with rfl | rfl | rfl | rfl | rfl | rfl | rfl <;> decide
set_option maxHeartbeats 2000000 in
set_option maxRecDepth 100000 in
theorem law_listed (n k : Int) (w : World) (hn : (Lit.int .i64 n).wf = true) (hk : (Lit.int .i64 k).wf = true) :
    Calls Try.prog 6 #[.int .i64 n, .int .i64 k] w fun e w' => e = .returned (.bool true) ∧ Keeps w w' := by
  have hm1 := fun X => mod_c n 7 hn (by omega) (by omega) X
  obtain ⟨a0, a1⟩ := modN_in n 7 (by omega)
  generalize modN n 7 = m at *
  obtain ⟨d, hd⟩ : ∃ d : Nat, (1 : Int) + m = d := ⟨(1 + m).toNat, by omega⟩
  have d1 : 1 ≤ d := by omega
  have d7 : d ≤ 7 := by omega
  have hco := fun x => count_c d x
  have hB : cntB d = true := by simp [cntB]; omega
  unfold cntN codeE at hco
  rw [hB, if_pos rfl, if_pos rfl, Int.toNat_natCast] at hco
  have hIx := fun W => index8 d d1 d7 W
  obtain ⟨x1, x2⟩ := cnt_in d d1 d7
  have q1 : IntKind.i64.wrap (1 + m) = (d : Int) := by rw [hd]; exact IntWalk.i64_in _ (by omega)
  have hst := clrs_sorted [] d
  have hgd := fun x (h : x ∈ clrs [] d) => And.intro (clrs_good h) (clrs_len (Nat.zero_le _) h)
  have his := fun q y h x => item_some d d1 d7 q y h x
  have hnn := fun A c l hl ho hf x hx => nx_none d d7 A c l hl ho hf x hx
  have hns := fun A c l hl ho y hf x hx => nx_some d d7 A c l hl ho y hf x hx
  generalize clrs [] d = xs at *
  have hm2 := fun X => mod_c k xs.length hk (by omega) (by omega) X
  obtain ⟨b0, b1⟩ := modN_in k xs.length (by omega)
  generalize modN k xs.length = kk at *
  obtain ⟨q, rfl⟩ := Int.eq_ofNat_of_zero_le b0
  have hq : q < xs.length := by omega
  have hx : xs[q]? = some xs[q] := List.getElem?_eq_getElem hq
  have hfx := find_next hst hx
  obtain ⟨⟨g1, g2⟩, g3⟩ := hgd xs[q] (List.mem_of_getElem? hx)
  have hit := fun X => his q _ hx X
  generalize hxq : xs[q] = x at *
  have hox : ordB x = true := by
    unfold ordB
    rw [g3, g1, decide_eq_true ⟨d1, by omega⟩]
    rfl
  have hro := fun b c X h => rorder_c (.slice (some ⟨b, 0, none⟩) d c) x X h
  rw [hox] at hro
  have hclr := fun b c X h => clear_c (some ⟨b, 0, none⟩) c x X h
  rw [show clearK x = true by rw [clearK, hox, ← clearB_iff, g2]; rfl, hox, if_pos rfl, g3] at hclr
  have hA : ∃ a b c e, clearA x = ia a b c e := by unfold clearA; split <;> exact ⟨_, _, _, _, rfl⟩
  obtain ⟨a, b, c, e, hA⟩ := hA
  rw [hA] at hclr
  have hlen1 : IntKind.i64.wrap ((xs.length : Int) - 1) = (xs.length : Int) - 1 := IntWalk.i64_in _ (by omega)
  have Hgd := Lib.hid hgd
  have Hst := Lib.hid hst
  have Hx := Lib.hid hx
  have Hg3 := Lib.hid g3
  have xI : (1 : Int) ≤ xs.length := by omega
  clear hn hk a0 a1 hB hd b0 b1 hgd hst g1 g2 hA x1 hx g3 hxq
  cases hy : xs[q + 1]? with
  | none =>
    have hqe : q + 1 = xs.length := by have := List.getElem?_eq_none_iff.1 hy; omega
    have hEq : ((q : Int) == (xs.length : Int) - 1) = true := by simp; omega
    rw [hy] at hfx
    have hnx := fun A c X h => hnn A c x Hg3.out hox hfx X h
    clear hy hqe hfx hox hnn hns his
    go_enter Try.func6, Try.ntmps6
    go_upto_region 7 with (first
      | (go_at_call 19; with_reducible refine (hm1 _).mono ?_; rintro e w1 ⟨rfl, rfl⟩)
      | (go_at_call 19; with_reducible refine (hm2 _).mono ?_; rintro e w1 ⟨rfl, rfl⟩)
      | (go_at_call 16; refine (hco _).mono ?_; rintro e w2 ⟨rfl, hb2⟩)
      | (go_at_call 17; refine (hit _).mono ?_; rintro e w3 ⟨b3, c3, rfl, hr3, hb3⟩))
    go_upto_region 9 with (go_at_call 14; refine (hro _ _ _ hr3).mono ?_; rintro e w4 ⟨rfl, hb4⟩)
    have hr4 := hr3.below hb4
    go_upto_region 10 with (first
      | (refine wpList_store_row rfl 43 _ _ rfl w5.heap.size (ia a b c e) rfl rfl 43 (ia 0 0 0 0) (At.new w5 _ _) (sizeF _ _ _ _) rfl (by simp [ia, Value.oneCell']) ?_)
      | (go_at_call 20; refine (hclr _ _ _ hr4).mono ?_; rintro e w5 ⟨rfl, hb5⟩))
    have hk6 := below_row (Keeps.alloc hb5 (.cells (ia 0 0 0 0) 43)) (hb5.size) (ia a b c e)
    have hr6 := hr4.below hk6
    have hkw := (hb2.next hb3).next (hb4.next hk6)
    go_wp2_with (first
      | (go_at_call 13; refine (hnx _ _ _ hr6).mono ?_; rintro e w7 ⟨rfl, hb7⟩)
      | (go_at_call 10; refine (awake_c _).mono ?_; rintro e w8 ⟨rfl, hb8⟩))
    go_ret
    exact ⟨rfl, (hkw.next hb7).next hb8⟩
  | some y =>
    have hy1 := (List.getElem?_eq_some_iff.1 hy).1
    have hEq : ((q : Int) == (xs.length : Int) - 1) = false := by simp; omega
    have hlo : lowB x y = true := by
      have h1 := List.pairwise_iff_getElem.1 Hst.out q (q + 1) hq hy1 (by omega)
      obtain ⟨_, e1⟩ := List.getElem?_eq_some_iff.1 Hx.out
      obtain ⟨_, e2⟩ := List.getElem?_eq_some_iff.1 hy
      rw [e1, e2] at h1
      exact h1
    have hyl := (Hgd.out y (List.mem_of_getElem? hy)).2
    rw [hy] at hfx
    have hnx := fun A c X h => hns A c x Hg3.out hox y hfx X h
    have hit2 := fun X => his (q + 1) y hy X
    have q2 : IntKind.i64.wrap ((q : Int) + 1) = ((q + 1 : Nat) : Int) := by rw [IntWalk.i64_in _ (by omega)]; omega
    have hbe := fun v v' X h h' => before_c v v' x y d Hg3.out hyl X h h'
    rw [hlo] at hbe
    clear hy hfx hox hnn hns his hlo hyl
    go_enter Try.func6, Try.ntmps6
    go_upto_region 7 with (first
      | (go_at_call 19; with_reducible refine (hm1 _).mono ?_; rintro e w1 ⟨rfl, rfl⟩)
      | (go_at_call 19; with_reducible refine (hm2 _).mono ?_; rintro e w1 ⟨rfl, rfl⟩)
      | (go_at_call 16; refine (hco _).mono ?_; rintro e w2 ⟨rfl, hb2⟩)
      | (go_at_call 17; refine (hit _).mono ?_; rintro e w3 ⟨b3, c3, rfl, hr3, hb3⟩))
    go_upto_region 9 with (go_at_call 14; refine (hro _ _ _ hr3).mono ?_; rintro e w4 ⟨rfl, hb4⟩)
    have hr4 := hr3.below hb4
    go_upto_region 10 with (first
      | (refine wpList_store_row rfl 43 _ _ rfl w5.heap.size (ia a b c e) rfl rfl 43 (ia 0 0 0 0) (At.new w5 _ _) (sizeF _ _ _ _) rfl (by simp [ia, Value.oneCell']) ?_)
      | (go_at_call 20; refine (hclr _ _ _ hr4).mono ?_; rintro e w5 ⟨rfl, hb5⟩))
    have hk6 := below_row (Keeps.alloc hb5 (.cells (ia 0 0 0 0) 43)) (hb5.size) (ia a b c e)
    have hr6 := hr4.below hk6
    have hkw := (hb2.next hb3).next (hb4.next hk6)
    go_upto_region 15 with (go_at_call 13; refine (hnx _ _ _ hr6).mono ?_; rintro e w7 ⟨b7, c7, rfl, hr7, hb7⟩)
    go_upto_region 16 with (go_at_call 17; refine (hit2 _).mono ?_; rintro e w8 ⟨b8, c8, rfl, hr8, hb8⟩)
    have hk8 := (hkw.next hb7).next hb8
    have hr68 := hr6.below (hb7.next hb8)
    have hr78 := hr7.below hb8
    go_wp2_with (first
      | (go_at_call 12; refine (ints_eq _ _ y _ hr78 hr8).mono ?_; rintro e w9 ⟨rfl, hb9⟩)
      | (go_at_call 21; refine (hbe _ _ _ (hr68.below hb9) (hr8.below hb9)).mono ?_; rintro e w10 ⟨rfl, m10, rfl⟩)
      | (go_at_call 10; refine (awake_c _).mono ?_; rintro e w11 ⟨rfl, hb11⟩))
    go_ret
    exact ⟨rfl, Keeps.next (below_drewN (hk8.next hb9)) hb11⟩
end Go.Proofs.Ytdlnmmhdgjjcfaa
