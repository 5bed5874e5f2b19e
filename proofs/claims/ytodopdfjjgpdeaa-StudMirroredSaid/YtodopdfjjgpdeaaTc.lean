/- The walk of the reference's Turn; the law Turns. -/
import Derived.Test.YtodopdfjjgpdeaaTb
import Derived.Test.YtodopdfjjgpdeaaVo
import Derived.Test.YtodopdfjjgpdeaaVf
namespace Go.Proofs.Ytodopdfjjgpdeaa
open Go.RowKit Go.Shelf
set_option linter.unusedVariables false
set_option linter.unusedSimpArgs false

theorem tn1_nth (L : List Int) (s k : Nat) (h : k < L.length) : nth (tn1 L s) k = if s % 2 = 1 then nth L (L.length - 1 - k) else nth L k := by
  unfold tn1
  split
  · simp [nth, List.getElem?_reverse h]
  · rfl
theorem tn2_nth (L : List Int) (s k : Nat) (h : k < L.length) : nth (tn2 L s) k = if s / 2 % 2 = 1 then (L.length : Int) - 1 - nth (tn1 L s) k else nth (tn1 L s) k := by
  unfold tn2
  split
  · have : k < (tn1 L s).length := by rw [tn1_length]; exact h
    simp [mirL, nth, List.getElem?_eq_getElem this, tn1_length]
  · rfl
theorem take_one (M : List Int) (k : Nat) (h : k < M.length) : (M.take (k + 1)).map (Value.int .i64) = (M.take k).map (Value.int .i64) ++ [.int .i64 (nth M k)] := by
  rw [take_nth M k h, List.map_append]
  rfl
set_option maxHeartbeats 4000000 in
set_option maxRecDepth 100000 in
theorem rturn_c (v0 : Value) (L : List Int) (s : Nat) (hs : s < 8) (h1 : 1 ≤ L.length) (h16 : L.length ≤ 16) (hin : inB L) (w : World) (hv : RdI w v0 L) :
    Calls Try.prog 18 #[v0, .int .i64 s] w fun e w' => ∃ v, e = .returned v ∧ RdI w' v (tn3 L s) ∧ Keeps w w' := by
  obtain ⟨i0, hi, hz0, hz1, hz2⟩ := info_parts infoI
  obtain ⟨A, c0, rfl, hm, hcs⟩ := id hv
  obtain ⟨n, hn⟩ : ∃ n, L.length = n := ⟨_, rfl⟩
  have hmk := fun x => makeI (n : Int) n rfl (by omega) x
  have hM := tn2_length L s
  have hMi := tn2_in hin s
  have h1n := tn1_nth L s
  have h2n := tn2_nth L s
  unfold inB at hMi
  rw [hM] at hMi
  rw [hn] at h1 h16 hm hcs hM hMi h1n h2n ⊢
  have r1 : ((s : Int) % 2 == 1) = decide (s % 2 = 1) := by
    rw [Bool.eq_iff_iff]; simp; omega
  have r2 : ((s : Int) / 2 % 2 == 1) = decide (s / 2 % 2 = 1) := by
    rw [Bool.eq_iff_iff]; simp; omega
  have Hn := Lib.hid hn
  have HM := Lib.hid hM
  have HMi := Lib.hid hMi
  have H1 := Lib.hid h1n
  have H2 := Lib.hid h2n
  have Hin := Lib.hid hin
  clear hn hM hMi h1n h2n hm hv hin
  go_enter Try.func18, Try.ntmps18
  go_wp2_with fail
  go_loopw [6, 7] (fun o i wr => ∃ k : Nat, k ≤ n ∧ i = .int .i64 k ∧ wr.ownsRow w.heap.size 3 1 o k (((tn2 L s).take k).map (Value.int .i64)) ∧ Keeps w wr) (fun _ i _ => n - (intOf i).toNat)
  case atStart => exact ⟨0, Nat.zero_le _, rfl, World.ownsRow_nil _ _ _ _, Below.refl _ _⟩
  case round =>
    obtain ⟨k, hk, rfl, hown, hb⟩ := hrel
    have hsz := hb.size
    have Hobs := Lib.hid (own_base hown)
    by_cases hlt : k < n
    · obtain ⟨j, hj⟩ : ∃ j, n - 1 - k = j := ⟨_, rfl⟩
      have hjI : (n : Int) - 1 - k = j := by omega
      have hjn : j < n := by omega
      obtain ⟨b0, o0, _, rfl, c1', rfl⟩ := hcs k hlt
      obtain ⟨_, _, _, e2, c2', rfl⟩ := hcs j hjn
      cases e2
      have c1 := cell_keep c1' hb
      have c2 := cell_keep c2' hb
      have q1 : IntKind.i64.wrap ((n : Int) - 1) = (n : Int) - 1 := IntWalk.i64_in _ (by omega)
      have q2 : IntKind.i64.wrap ((n : Int) - 1 - k) = (j : Int) := by rw [hjI]; exact IntWalk.i64_in _ (by omega)
      have hin1 := Hin.out k (by rw [Hn.out]; exact hlt)
      have hin2 := Hin.out j (by rw [Hn.out]; exact hjn)
      rw [Hn.out] at hin1 hin2
      have h1k := H1.out k hlt
      rw [hj] at h1k
      have h2k := H2.out k hlt
      have hto := take_one (tn2 L s) k (by rw [HM.out]; exact hlt)
      have q3 : IntKind.i64.wrap ((n : Int) - 1 - nth L k) = (n : Int) - 1 - nth L k := IntWalk.i64_in _ (by omega)
      have q4 : IntKind.i64.wrap ((n : Int) - 1 - nth L j) = (n : Int) - 1 - nth L j := IntWalk.i64_in _ (by omega)
      clear hcs c1' c2' hj hjI
      by_cases hb1 : s % 2 = 1
      · rw [decide_eq_true hb1] at r1
        rw [if_pos hb1] at h1k
        by_cases hb2 : s / 2 % 2 = 1
        · rw [decide_eq_true hb2] at r2
          rw [if_pos hb2, h1k] at h2k
          rw [h2k] at hto
          have Hto := Lib.hid hto
          clear hto h2k h1k
          generalize nth L k = y at *
          generalize nth L j = x at *
          go_wp2_with (at_builtin; refine wpList_append_own _ rfl (.tmp 40) (.tmp 42) 22 rfl w.heap.size 3 i0 _ 1 8 Try.underlying22 hi hz0 hz1 hz2 rfl (by decide) _ k _ rfl (hown.alloc _) _ 1 1 [.int .i64 ((n : Int) - 1 - x)] rfl rfl (new_cells _ _ _ _ (by simp)) (by simp [Value.oneCell']) (by unfold maxLen; omega) (by omega) (by simp; omega) ?_; intro v2 w6 hown2 hgrow2 _)
          go_roundw
          case rel => exact ⟨k + 1, by omega, by go_num, by rw [Hto.out]; exact hown2, (Keeps.alloc hb _).grown hgrow2 (by simp; omega) (fun r hr => Hobs.out r hr)⟩
          case measure => simp [intOf]; omega
        · rw [decide_eq_false hb2] at r2
          rw [if_neg hb2, h1k] at h2k
          rw [h2k] at hto
          have Hto := Lib.hid hto
          clear hto h2k h1k
          generalize nth L k = y at *
          generalize nth L j = x at *
          go_wp2_with (at_builtin; refine wpList_append_own _ rfl (.tmp 40) (.tmp 42) 22 rfl w.heap.size 3 i0 _ 1 8 Try.underlying22 hi hz0 hz1 hz2 rfl (by decide) _ k _ rfl (hown.alloc _) _ 1 1 [.int .i64 x] rfl rfl (new_cells _ _ _ _ (by simp)) (by simp [Value.oneCell']) (by unfold maxLen; omega) (by omega) (by simp; omega) ?_; intro v2 w6 hown2 hgrow2 _)
          go_roundw
          case rel => exact ⟨k + 1, by omega, by go_num, by rw [Hto.out]; exact hown2, (Keeps.alloc hb _).grown hgrow2 (by simp; omega) (fun r hr => Hobs.out r hr)⟩
          case measure => simp [intOf]; omega
      · rw [decide_eq_false hb1] at r1
        rw [if_neg hb1] at h1k
        by_cases hb2 : s / 2 % 2 = 1
        · rw [decide_eq_true hb2] at r2
          rw [if_pos hb2, h1k] at h2k
          rw [h2k] at hto
          have Hto := Lib.hid hto
          clear hto h2k h1k
          generalize nth L j = x at *
          generalize nth L k = y at *
          go_wp2_with (at_builtin; refine wpList_append_own _ rfl (.tmp 40) (.tmp 42) 22 rfl w.heap.size 3 i0 _ 1 8 Try.underlying22 hi hz0 hz1 hz2 rfl (by decide) _ k _ rfl (hown.alloc _) _ 1 1 [.int .i64 ((n : Int) - 1 - y)] rfl rfl (new_cells _ _ _ _ (by simp)) (by simp [Value.oneCell']) (by unfold maxLen; omega) (by omega) (by simp; omega) ?_; intro v2 w6 hown2 hgrow2 _)
          go_roundw
          case rel => exact ⟨k + 1, by omega, by go_num, by rw [Hto.out]; exact hown2, (Keeps.alloc hb _).grown hgrow2 (by simp; omega) (fun r hr => Hobs.out r hr)⟩
          case measure => simp [intOf]; omega
        · rw [decide_eq_false hb2] at r2
          rw [if_neg hb2, h1k] at h2k
          rw [h2k] at hto
          have Hto := Lib.hid hto
          clear hto h2k h1k
          generalize nth L j = x at *
          generalize nth L k = y at *
          go_wp2_with (at_builtin; refine wpList_append_own _ rfl (.tmp 40) (.tmp 42) 22 rfl w.heap.size 3 i0 _ 1 8 Try.underlying22 hi hz0 hz1 hz2 rfl (by decide) _ k _ rfl (hown.alloc _) _ 1 1 [.int .i64 y] rfl rfl (new_cells _ _ _ _ (by simp)) (by simp [Value.oneCell']) (by unfold maxLen; omega) (by omega) (by simp; omega) ?_; intro v2 w6 hown2 hgrow2 _)
          go_roundw
          case rel => exact ⟨k + 1, by omega, by go_num, by rw [Hto.out]; exact hown2, (Keeps.alloc hb _).grown hgrow2 (by simp; omega) (fun r hr => Hobs.out r hr)⟩
          case measure => simp [intOf]; omega
    · obtain rfl : n = k := by omega
      rw [List.take_of_length_le (by rw [HM.out]; exact Nat.le_refl _)] at hown
      have hrd := own_ints (l := tn2 L s) (by rw [HM.out]; exact hown) (by rw [HM.out]; unfold maxLen; omega)
      obtain ⟨g6, cap6, rfl, hg6, hg6', _, _, hc6⟩ := own_form hown (by omega)
      have Hrd := Lib.hid hrd
      have Hc6 := Lib.hid hc6
      clear hown hrd hcs hc6
      by_cases h4 : s < 4
      · have h4I : (s : Int) < 4 := by omega
        have he : tn3 L s = tn2 L s := by unfold tn3; rw [if_neg (by omega)]
        have He := Lib.hid he
        clear he
        go_wp2_with fail
        go_ret
        exact ⟨_, rfl, by rw [He.out]; exact Hrd.out.rd, hb⟩
      · have h4I : decide ((s : Int) < 4) = false := by simp; omega
        have he : tn3 L s = exK (tn2 L s) n := by unfold tn3 exL; rw [if_pos (by omega), HM.out]
        have He := Lib.hid he
        clear he h4
        go_wp2_with fail
        have hk1 : Keeps wr (wr.alloc (.cells (ic (List.replicate n 0)) 3)) := Keeps.alloc (Below.refl _ _) _
        have z3 : At (wr.alloc (.cells (ic (List.replicate n 0)) 3)) wr.heap.size 3 (ic (exK (tn2 L s) 0)) := by
          have := At.new wr 3 (ic (List.replicate n 0))
          unfold exK
          rw [HM.out]
          exact this
        generalize wr = w3 at *
        go_loopw [10] (fun i wr => ∃ k : Nat, k ≤ n ∧ i = .int .i64 k ∧ At wr w3.heap.size 3 (ic (exK (tn2 L s) k)) ∧ Keeps w3 wr) (fun i _ => n - (intOf i).toNat)
        case atStart => exact ⟨0, Nat.zero_le _, rfl, z3, hk1⟩
        case round =>
          obtain ⟨k, hk2, rfl, hat, hbe⟩ := hrel
          by_cases hlt : k < n
          · obtain ⟨j0, j1⟩ := HMi.out k hlt
            have c1 := cell_keep (Hc6.out k (.int .i64 (nth (tn2 L s) k)) (by simp [nth, HM.out, hlt])) hbe
            have hsc := exK_succ (tn2 L s) k
            have hel : (exK (tn2 L s) k).length = n := by rw [exK_length, HM.out]
            obtain ⟨x, hx⟩ := Int.eq_ofNat_of_zero_le j0
            rw [hx] at c1 hsc j1
            rw [Int.toNat_natCast] at hsc
            have hxn : x < n := by omega
            have c2 := hat.int x (by rw [hel]; exact hxn)
            have f2 := hat.frozen x
            have hA := hat.set x (.int .i64 k)
            rw [ic_set, ← hsc] at hA
            have HA := Lib.hid hA
            clear hx j0 hsc hel hA hat
            go_wp2_with fail
            go_roundw
            case rel => exact ⟨k + 1, by omega, by go_num, HA.out, hbe.setCell (by simp) _⟩
            case measure => simp [intOf]; omega
          · obtain rfl : n = k := by omega
            have hrx := RdI_of_at (m := n) (c := n) hat (by rw [exK_length, HM.out]; exact Nat.le_refl _) (by rw [exK_length, HM.out]; unfold maxLen; omega)
            rw [List.take_of_length_le (by rw [exK_length, HM.out]; exact Nat.le_refl _), ← He.out] at hrx
            have Hrx := Lib.hid hrx
            clear hrx hat
            go_wp2_with fail
            go_ret
            exact ⟨_, rfl, Hrx.out, hb.next hbe⟩
theorem ints_same (v v' : Value) (a : List Int) (w : World) (ha : RdI w v a) (hb : RdI w v' a) :
    Calls Try.prog 15 #[v, v'] w fun e w' => e = .returned (.bool true) ∧ Keeps w w' := by
  refine (ints_c v v' a a w ha hb).mono ?_
  rintro e w' ⟨h, m, rfl⟩
  rw [decide_eq_true rfl] at h
  exact ⟨h, below_drewN (Below.refl _ _)⟩
set_option maxHeartbeats 2000000 in
set_option maxRecDepth 100000 in
theorem law_turns (v0 : Value) (l0 : List Int) (s : Int) (w : World) (hv : RdI w v0 l0) (hf : fits l0) (hcap : Cap v0) (hs : (Lit.int .i64 s).wf = true) :
    Calls Try.prog 4 #[v0, .int .i64 s] w fun e w' => e = .returned (.bool true) ∧ Keeps w w' := by
  have hli := list_c v0 l0 w hv hcap
  generalize l0.take 17 = l at *
  clear hv hf hcap
  go_enter Try.func4, Try.ntmps4
  go_wp2_with (go_at_call 16; refine hli.mono ?_; rintro e w1 ⟨A, c, rfl, hl, hb1⟩)
  clear hli
  have hro := fun X h => rorder_c (.slice A l.length c) l X (hl.below h)
  by_cases hg : ordB l = true ∧ 0 ≤ s ∧ s < 8
  · obtain ⟨ho, s0, s8⟩ := hg
    obtain ⟨k, rfl⟩ := Int.eq_ofNat_of_zero_le s0
    obtain ⟨h1, h16, hin⟩ := ordB_in ho
    have htu := turn_yes (.slice A l.length c) l k (by omega) ho w1 hl
    have hrt := fun X h => rturn_c (.slice A l.length c) l k (by omega) h1 h16 hin X (hl.below h)
    rw [ho] at hro
    have d1 : decide ((k : Int) < 0) = false := by simp
    have d2 : decide ((7 : Int) < k) = false := by simp; omega
    have h3 := tn3_length l k
    clear ho s0 s8 hs hin
    go_wp2_with fail
    refine htu.mono ?_
    rintro e w2 ⟨g, c2, ex, rfl, hat, hg, hb2⟩
    have hr2 := hat.rowA_rd c2 (by rw [h3]; omega)
    rw [h3] at hr2
    clear hat htu
    go_wp2_with (first
      | (go_at_call 10; refine (hro _ hb2).mono ?_; rintro e w3 ⟨rfl, hb3⟩)
      | (go_at_call 18; refine (hrt _ (hb2.next hb3)).mono ?_; rintro e w4 ⟨v4, rfl, hr4, hb4⟩)
      | (go_at_call 15; refine (ints_same _ _ (tn3 l k) _ (hr2.below (hb3.next hb4)) hr4).mono ?_; rintro e w5 ⟨rfl, hb5⟩)
      | (go_at_call 9; refine (awake_c _).mono ?_; rintro e w6 ⟨rfl, hb6⟩))
    go_ret
    exact ⟨rfl, ((((hb1.next hb2).next hb3).next hb4).next hb5).next hb6⟩
  · cases ho : ordB l with
    | false =>
      have htu := turn_no (.slice A l.length c) l s (.inl ho) w1 hl
      rw [ho] at hro
      clear ho hg hs
      go_wp2_with fail
      refine htu.mono ?_
      rintro e w2 ⟨rfl, hb2⟩
      go_wp2_with (first
        | (go_at_call 10; refine (hro _ hb2).mono ?_; rintro e w3 ⟨rfl, hb3⟩)
        | (go_at_call 9; refine (awake_c _).mono ?_; rintro e w6 ⟨rfl, hb6⟩))
      go_ret
      exact ⟨rfl, ((hb1.next hb2).next hb3).next hb6⟩
    | true =>
      have hor : s < 0 ∨ (¬ s < 0 ∧ 8 ≤ s) := by
        rw [ho] at hg
        rcases Int.lt_or_le s 0 with h | h
        · exact .inl h
        · exact .inr ⟨by omega, by
            rcases Int.lt_or_le s 8 with h2 | h2
            · exact absurd ⟨rfl, h, h2⟩ hg
            · exact h2⟩
      have htu := turn_no (.slice A l.length c) l s (.inr ⟨ho, hor⟩) w1 hl
      rw [ho] at hro
      clear ho hg hs
      rcases hor with h0 | ⟨h0, h8⟩
      · go_wp2_with fail
        refine htu.mono ?_
        rintro e w2 ⟨rfl, hb2⟩
        go_wp2_with (first
          | (go_at_call 10; refine (hro _ hb2).mono ?_; rintro e w3 ⟨rfl, hb3⟩)
          | (go_at_call 9; refine (awake_c _).mono ?_; rintro e w6 ⟨rfl, hb6⟩))
        go_ret
        exact ⟨rfl, ((hb1.next hb2).next hb3).next hb6⟩
      · have d1 : decide (s < 0) = false := decide_eq_false h0
        have d2 : (7 : Int) < s := by omega
        clear h0 h8
        go_wp2_with fail
        refine htu.mono ?_
        rintro e w2 ⟨rfl, hb2⟩
        go_wp2_with (first
          | (go_at_call 10; refine (hro _ hb2).mono ?_; rintro e w3 ⟨rfl, hb3⟩)
          | (go_at_call 9; refine (awake_c _).mono ?_; rintro e w6 ⟨rfl, hb6⟩))
        go_ret
        exact ⟨rfl, ((hb1.next hb2).next hb3).next hb6⟩
end Go.Proofs.Ytodopdfjjgpdeaa
