/- The law Worsts. -/
import Derived.Test.YtdploccpobpjjaaYj
import Derived.Test.YtdploccpobpjjaaYk
import Derived.Test.YtdploccpobpjjaaVf
import Derived.Test.YtdploccpobpjjaaVo
import Derived.Test.YtdploccpobpjjaaSl
import Derived.Test.YtdploccpobpjjaaLi
import Derived.ChangeKeysEq
namespace Go.Proofs.Ytdploccpobpjjaa
open Go.RowKit Go.Shelf
set_option linter.unusedVariables false
set_option linter.unusedSimpArgs false

set_option maxRecDepth 100000 in
theorem eq2_same (a b : Int) (w : World) : (Op.equalIn 10000 34 (.agg (ic [a, b])) (.agg (ic [a, b]))).run Try.prog w = .ok true w := by
  obtain ⟨i0, hi, -⟩ := info_parts infoI
  have h0 : ∀ (n : Nat) (x : Int), (Op.equalIn (n + 1) 3 (.int .i64 x) (.int .i64 x)).run Try.prog w = .ok true w := fun n x => by simp [Op.equalIn, go_sem]
  have h1 : ∀ x : Int, (Op.equalIn 9999 3 (.int .i64 x) (.int .i64 x)).run Try.prog w = .ok true w := fun x => h0 9998 x
  clear h0
  have hp : Try.prog.cellsOf 3 = 1 := by kernel_rfl
  have q0 : (part 3 #[Value.int .i64 a, .int .i64 b] 0).run Try.prog w = .ok (.int .i64 a) w := by kernel_rfl
  have q1 : (part 3 #[Value.int .i64 a, .int .i64 b] 1).run Try.prog w = .ok (.int .i64 b) w := by kernel_rfl
  refine (run_equalIn_array (P := Try.prog) w 9999 (ic [a, b]) (ic [a, b]) Try.underlying34 hi).trans ?_
  rw [hp]
  generalize 9999 = n at *
  simp [ic, Op.eqItems, List.range_succ, Sem.run_bind, q0, q1, h1, Result.andThen]
theorem rd_some {w : World} {A : Option Addr} {n c : Nat} {l : List Int} (h : RdI w (.slice A n c) l) (h1 : 1 ≤ l.length) : ∃ b o, A = some ⟨b, o, none⟩ := by
  obtain ⟨A', c', e, _, hc⟩ := h
  cases e
  obtain ⟨b, o, u, rfl, _, _⟩ := hc 0 (by omega)
  exact ⟨b, o, rfl⟩
set_option maxHeartbeats 4000000 in
set_option maxRecDepth 100000 in
theorem law_worsts (v0 : Value) (l0 : List Int) (w : World) (hv : RdI w v0 l0) (hf : fits l0) (hcap : Cap v0) :
    Calls Try.prog 4 #[v0] w fun e w' => e = .returned (.bool true) ∧ Keeps w w' := by
  have hli := list_c v0 l0 w hv hcap
  generalize l0.take 17 = l at *
  have hro := fun x A c hx => rorder_c (.slice A l.length c) l x hx
  by_cases ho : ordB l = true
  · have hwo := fun x A c hx => worst_yes A c l ho x hx
    have hrw := fun x A c hx => rworst_c A c l ho x hx
    rw [worst_same l ho] at hwo
    obtain ⟨ho1, ho2, ho3, -⟩ := ordB_parts l ho
    obtain ⟨n, hn⟩ : ∃ n, l.length = n := ⟨_, rfl⟩
    generalize rU (rmeetN l) l.length (l.length - 1) = s at *
    rw [ho] at hro
    have heq := eq2_same s.2.1 s.2.2
    by_cases h16 : n = 16
    · subst h16
      have hco := fun x A c hx => Corners_16 A c l ho x hx
      rw [hn] at hli hro hwo hrw
      clear ho3 hv hf hcap ho
      go_enter Try.func4, Try.ntmps4
      go_upto_region 3 with (first
        | (go_at_call 11; refine hli.mono ?_; rintro e w1 ⟨A, c, rfl, hl1, hb1⟩)
        | (go_at_call 12; refine (hwo _ _ _ hl1).mono ?_; rintro e w2 ⟨rfl, hb2⟩; have hl2 := RdI.below hl1 hb2; have hk2 := Keeps.next hb1 hb2)
        | (refine wpList_store_row rfl 34 _ _ rfl w2.heap.size (ic [s.2.1, s.2.2]) rfl rfl 34 (ic [0, 0]) (At.new w2 34 _) (size2 _ _) rfl (ic_one _) ?_))
      obtain ⟨Y, hY⟩ : ∃ Y, (w2.alloc (.cells #[.int .i64 0, .int .i64 0] 34)).setRow w2.heap.size (ic [s.2.1, s.2.2]) = Y := ⟨_, rfl⟩
      have aX : At Y w2.heap.size 34 (ic [s.2.1, s.2.2]) := by rw [← hY]; exact (At.new w2 _ _).row _
      have k2Y : Keeps w2 Y := by rw [← hY]; exact below_row (Keeps.alloc (Below.refl _ _) _) (Nat.le_refl _) _
      have hlY := RdI.below hl2 k2Y
      have kY := Keeps.next hk2 k2Y
      rw [show (w2.alloc (.cells #[.int .i64 0, .int .i64 0] 34)).setRow w2.heap.size (ic [s.2.1, s.2.2]) = Y from hY]
      clear hY hli hwo hl1 hl2 hb2 hk2 k2Y
      generalize w2.heap.size = gx at *
      go_upto_region 7 with (first
        | (go_at_call 7; refine (hco _ _ _ hlY).mono ?_; rintro e w3 ⟨rfl, hb3⟩; have hl3 := RdI.below hlY hb3; have hk3 := Keeps.next kY hb3; have aX3 := aX.later hb3)
        | (go_at_call 13; refine (hro _ _ _ hl3).mono ?_; rintro e w4 ⟨rfl, hb4⟩; have hl4 := RdI.below hl3 hb4; have hk4 := Keeps.next hk3 hb4; have aX4 := aX3.later hb4)
        | (go_at_call 14; refine (hrw _ _ _ hl4).mono ?_; rintro e w5 ⟨rfl, hb5⟩; have hl5 := RdI.below hl4 hb5; have hk5 := Keeps.next hk4 hb5; have aX5 := aX4.later hb5)
        | (refine wpList_store_row rfl 34 _ _ rfl w5.heap.size (ic [s.2.1, s.2.2]) rfl rfl 34 (ic [0, 0]) (At.new w5 34 _) (size2 _ _) rfl (ic_one _) ?_))
      obtain ⟨Z, hZ⟩ : ∃ Z, (w5.alloc (.cells #[.int .i64 0, .int .i64 0] 34)).setRow w5.heap.size (ic [s.2.1, s.2.2]) = Z := ⟨_, rfl⟩
      have aY : At Z w5.heap.size 34 (ic [s.2.1, s.2.2]) := by rw [← hZ]; exact (At.new w5 _ _).row _
      have k5Z : Keeps w5 Z := by rw [← hZ]; exact below_row (Keeps.alloc (Below.refl _ _) _) (Nat.le_refl _) _
      have hlZ := RdI.below hl5 k5Z
      have kZ := Keeps.next hk5 k5Z
      have aXZ := aX5.later k5Z
      rw [show (w5.alloc (.cells #[.int .i64 0, .int .i64 0] 34)).setRow w5.heap.size (ic [s.2.1, s.2.2]) = Z from hZ]
      clear hZ hco hro hrw hl3 hl4 hlY hl5 aX aX3 aX4 aX5 k5Z
      generalize w5.heap.size = gy at *
      go_wp2_with (first
        | (refine load_row_w rfl 34 _ rfl gx rfl 34 (ic [s.2.1, s.2.2]) _ _ aXZ Try.underlying34 rfl (size2 _ _) ?_)
        | (refine load_row_w rfl 34 _ rfl gy rfl 34 (ic [s.2.1, s.2.2]) _ _ aY Try.underlying34 rfl (size2 _ _) ?_)
        | (go_at_call 10; refine (awake_c _).mono ?_; rintro e w8 ⟨rfl, hb8⟩; have hk8 := Keeps.next kZ hb8))
      go_ret
      exact ⟨rfl, hk8⟩
    · have h15 : n ≤ 15 := by omega
      have hco := fun x A c hx => Corners_c A c l ho (by omega) x hx
      have hrc := fun x b o c hx => rcorners_c b o c l ho (by omega) x hx
      have hC4 := corsI_len l 4
      generalize corsI l 4 = C at *
      rw [hn] at hli hro hwo hrw hco hrc ho1
      have Hn := Lib.hid hn
      have hne : ((n : Int) == 16) = false := by simp; omega
      clear ho3 hv hf hcap ho
      go_enter Try.func4, Try.ntmps4
      go_upto_region 3 with (first
        | (go_at_call 11; refine hli.mono ?_; rintro e w1 ⟨A, c, rfl, hl1, hb1⟩; obtain ⟨bA, oA, rfl⟩ := rd_some hl1 (by rw [Hn.out]; exact ho1))
        | (go_at_call 12; refine (hwo _ _ _ hl1).mono ?_; rintro e w2 ⟨rfl, hb2⟩; have hl2 := RdI.below hl1 hb2; have hk2 := Keeps.next hb1 hb2)
        | (refine wpList_store_row rfl 34 _ _ rfl w2.heap.size (ic [s.2.1, s.2.2]) rfl rfl 34 (ic [0, 0]) (At.new w2 34 _) (size2 _ _) rfl (ic_one _) ?_))
      obtain ⟨Y, hY⟩ : ∃ Y, (w2.alloc (.cells #[.int .i64 0, .int .i64 0] 34)).setRow w2.heap.size (ic [s.2.1, s.2.2]) = Y := ⟨_, rfl⟩
      have aX : At Y w2.heap.size 34 (ic [s.2.1, s.2.2]) := by rw [← hY]; exact (At.new w2 _ _).row _
      have k2Y : Keeps w2 Y := by rw [← hY]; exact below_row (Keeps.alloc (Below.refl _ _) _) (Nat.le_refl _) _
      have hlY := RdI.below hl2 k2Y
      have kY := Keeps.next hk2 k2Y
      rw [show (w2.alloc (.cells #[.int .i64 0, .int .i64 0] 34)).setRow w2.heap.size (ic [s.2.1, s.2.2]) = Y from hY]
      clear hY hli hwo hl1 hl2 hb2 hk2 k2Y
      generalize w2.heap.size = gx at *
      go_upto_region 7 with (first
        | (go_at_call 7; refine (hco _ _ _ hlY).mono ?_; rintro e w3 ⟨vc, rfl, hown3, hb3⟩; have hl3 := RdI.below hlY hb3; have hk3 := Keeps.next kY hb3; have aX3 := aX.later hb3; have hc3 := (own_ints hown3 (by unfold maxLen; omega)).rd)
        | (go_at_call 13; refine (hro _ _ _ hl3).mono ?_; rintro e w4 ⟨rfl, hb4⟩; have hl4 := RdI.below hl3 hb4; have hk4 := Keeps.next hk3 hb4; have aX4 := aX3.later hb4; have hc4 := RdI.below hc3 hb4)
        | (go_at_call 14; refine (hrw _ _ _ hl4).mono ?_; rintro e w5 ⟨rfl, hb5⟩; have hl5 := RdI.below hl4 hb5; have hk5 := Keeps.next hk4 hb5; have aX5 := aX4.later hb5; have hc5 := RdI.below hc4 hb5)
        | (refine wpList_store_row rfl 34 _ _ rfl w5.heap.size (ic [s.2.1, s.2.2]) rfl rfl 34 (ic [0, 0]) (At.new w5 34 _) (size2 _ _) rfl (ic_one _) ?_))
      obtain ⟨Z, hZ⟩ : ∃ Z, (w5.alloc (.cells #[.int .i64 0, .int .i64 0] 34)).setRow w5.heap.size (ic [s.2.1, s.2.2]) = Z := ⟨_, rfl⟩
      have aY : At Z w5.heap.size 34 (ic [s.2.1, s.2.2]) := by rw [← hZ]; exact (At.new w5 _ _).row _
      have k5Z : Keeps w5 Z := by rw [← hZ]; exact below_row (Keeps.alloc (Below.refl _ _) _) (Nat.le_refl _) _
      have hlZ := RdI.below hl5 k5Z
      have kZ := Keeps.next hk5 k5Z
      have aXZ := aX5.later k5Z
      have hcZ := RdI.below hc5 k5Z
      clear hc3 hc4 hc5 hown3
      rw [show (w5.alloc (.cells #[.int .i64 0, .int .i64 0] 34)).setRow w5.heap.size (ic [s.2.1, s.2.2]) = Z from hZ]
      clear hZ hco hro hrw hl3 hl4 hlY hl5 aX aX3 aX4 aX5 k5Z
      generalize w5.heap.size = gy at *
      go_wp2_with (first
        | (refine load_row_w rfl 34 _ rfl gx rfl 34 (ic [s.2.1, s.2.2]) _ _ aXZ Try.underlying34 rfl (size2 _ _) ?_)
        | (refine load_row_w rfl 34 _ rfl gy rfl 34 (ic [s.2.1, s.2.2]) _ _ aY Try.underlying34 rfl (size2 _ _) ?_)
        | (go_at_call 16; refine (hrc _ _ _ _ hlZ).mono ?_; rintro e w6 ⟨vr, rfl, hown6, hb6⟩; have hvr := (own_ints hown6 (by unfold maxLen; omega)).rd; have hc6 := RdI.below hcZ hb6; have hk6 := Keeps.next kZ hb6)
        | (go_at_call 15; refine (ints_yes _ _ C _ hc6 hvr).mono ?_; rintro e w7 ⟨rfl, hb7⟩; have hk7 := Keeps.next hk6 hb7)
        | (go_at_call 10; refine (awake_c _).mono ?_; rintro e w8 ⟨rfl, hb8⟩; have hk8 := Keeps.next hk7 hb8))
      go_ret
      exact ⟨rfl, hk8⟩
  · have ho' : ordB l = false := by simpa using ho
    have hwo := fun x A c hx => worst_no A l.length c l ho' x hx
    have hco := fun x A c hx => Corners_no A l.length c l ho' x hx
    rw [ho'] at hro
    have heq : ∀ W, (Op.equalIn 10000 34 (.agg (ic [0, 0])) (.agg #[.int .i64 0, .int .i64 0])).run Try.prog W = .ok true W := fun W => eq2_same 0 0 W
    clear ho ho' hv hf hcap
    go_enter Try.func4, Try.ntmps4
    go_wp2_with (first
      | (go_at_call 11; refine hli.mono ?_; rintro e w1 ⟨A, c, rfl, hl1, hb1⟩)
      | (go_at_call 12; refine (hwo _ _ _ hl1).mono ?_; rintro e w2 ⟨rfl, hb2⟩; have hl2 := RdI.below hl1 hb2; have hk2 := Keeps.next hb1 hb2)
      | (refine wpList_store_row rfl 34 _ _ rfl w2.heap.size (ic [0, 0]) rfl rfl 34 (ic [0, 0]) (At.new w2 34 _) (size2 _ _) rfl (ic_one _) ?_; have aX : At ((w2.alloc (.cells (ic [0, 0]) 34)).setRow w2.heap.size (ic [0, 0])) w2.heap.size 34 (ic [0, 0]) := (At.new w2 _ _).row _; have k2Y : Keeps w2 ((w2.alloc (.cells (ic [0, 0]) 34)).setRow w2.heap.size (ic [0, 0])) := below_row (Keeps.alloc (Below.refl _ _) _) (Nat.le_refl _) _; have hlY := RdI.below hl2 k2Y; have kY := Keeps.next hk2 k2Y)
      | (go_at_call 7; refine (hco _ _ _ hlY).mono ?_; rintro e w3 ⟨rfl, hb3⟩; have hl3 := RdI.below hlY hb3; have hk3 := Keeps.next kY hb3; have aX3 := aX.later hb3)
      | (go_at_call 13; refine (hro _ _ _ hl3).mono ?_; rintro e w4 ⟨rfl, hb4⟩; have hk4 := Keeps.next hk3 hb4; have aX4 := aX3.later hb4)
      | (refine load_row_w rfl 34 _ rfl w2.heap.size rfl 34 (ic [0, 0]) _ _ aX4 Try.underlying34 rfl (size2 _ _) ?_)
      | (go_at_call 10; refine (awake_c _).mono ?_; rintro e w8 ⟨rfl, hb8⟩; have hk8 := Keeps.next hk4 hb8))
    go_ret
    exact ⟨rfl, hk8⟩
end Go.Proofs.Ytdploccpobpjjaa
