/- The law's same; the reference's Switch; the law Switches. -/
import Derived.Test.YtkecigfgggeleaaEn
import Derived.BigQuiet
namespace Go.Proofs.Ytkecigfgggeleaa
open Go.RowKit Go.Shelf
set_option linter.unusedVariables false
set_option linter.unusedSimpArgs false

set_option maxHeartbeats 2000000 in
set_option maxRecDepth 100000 in
theorem same_c (v v' : Value) (l : List Ed) (h41 : l.length ≤ 41) (w : World) (hv : RdE w v l) (hv' : RdE w v' l) :
    Calls Try.prog 15 #[v, v'] w fun e w' => e = .returned (.bool true) ∧ Keeps w w' := by
  obtain ⟨A, c, rfl, hm, hcs⟩ := id hv
  obtain ⟨A', c', rfl, hm', hcs'⟩ := id hv'
  have Hcs := Lib.hid hcs
  have Hcs' := Lib.hid hcs'
  clear hcs hcs' hv hv'
  go_enter Try.func15, Try.ntmps15
  go_wp2_with fail
  go_loopw [5] (fun i wr => ∃ k : Nat, k ≤ l.length ∧ i = .int .i64 k ∧ Keeps w wr) (fun i _ => l.length - (intOf i).toNat)
  case atStart => exact ⟨0, Nat.zero_le _, rfl, Below.refl _ _⟩
  case round =>
    obtain ⟨k, hk, rfl, hb⟩ := hrel
    by_cases hlt : k < l.length
    · obtain ⟨x, hx⟩ : ∃ x, l[k]? = some x := ⟨_, List.getElem?_eq_getElem hlt⟩
      obtain ⟨b, off, rfl, c1, c2, c3⟩ := Hcs.out k x hx
      obtain ⟨b', off', rfl, d1, d2, d3⟩ := Hcs'.out k x hx
      have c1 := cell_keep c1 hb
      have c2 := cell_keep c2 hb
      have c3 := cell_keep c3 hb
      have d1 := cell_keep d1 hb
      have d2 := cell_keep d2 hb
      have d3 := cell_keep d3 hb
      have hkI : (k : Int) < (l.length : Int) := by omega
      clear hx
      go_wp2_with fail
      go_quiet (fail)
      go_wp2_with fail
      go_roundw
      case rel => exact ⟨k + 1, by omega, by go_num, below_drewN hb⟩
      case measure => simp [intOf]; omega
    · obtain rfl : k = l.length := by omega
      go_wp2_with fail
      go_ret
      exact ⟨rfl, hb⟩
set_option maxHeartbeats 4000000 in
set_option maxRecDepth 100000 in
theorem rswitch_c (v : Value) (l : List Ed) (s : ByteArray) (hl : edgesOk l) (hbl : below s.size l) (hs12 : s.size ≤ 12) (hok : s.data.toList.all okC = true) (w : World) (hv : RdE w v l) :
    Calls Try.prog 16 #[v, .string s] w fun e w' => ∃ u, e = .returned u ∧ RdE w' u (swL (rdS s.data.toList s.size) l) ∧ Keeps w w' := by
  obtain ⟨A, c, rfl, hm, hcs⟩ := id hv
  obtain ⟨i0, hi, hz0, hz1, hz2⟩ := info_parts infoEd
  have hl41 := hl.1
  have hne := side_ne s hs12 hok
  generalize rdS s.data.toList s.size = S at *
  have Hne := Lib.hid hne
  have Hcs := Lib.hid hcs
  clear hne hok hcs
  have hsl : (swL S l).length = l.length := by simp [swL]
  have Hsl := Lib.hid hsl
  clear hsl
  go_enter Try.func16, Try.ntmps16
  go_wp2_with fail
  go_loopw [5, 6] (fun u i wr => ∃ k : Nat, k ≤ l.length ∧ i = .int .i64 k ∧ wr.ownsRow w.heap.size 45 3 u k (ecs ((swL S l).take k)) ∧ Keeps w wr) (fun _ i _ => l.length - (intOf i).toNat)
  case atStart => exact ⟨0, Nat.zero_le _, rfl, World.ownsRow_nil _ _ _ _, Below.refl _ _⟩
  case round =>
    obtain ⟨k, hk, rfl, hown, hb⟩ := hrel
    generalize wr = w0 at *
    by_cases hlt : k < l.length
    · obtain ⟨x, hx⟩ : ∃ x, l[k]? = some x := ⟨_, List.getElem?_eq_getElem hlt⟩
      obtain ⟨b, off, rfl, c1, c2, c3⟩ := Hcs.out k x hx
      have c1 := cell_keep c1 hb
      have c2 := cell_keep c2 hb
      have c3 := cell_keep c3 hb
      have hxb := hbl x (List.mem_of_getElem? hx)
      have hxm := hl.2 x (List.mem_of_getElem? hx)
      have hkI : (k : Int) < (l.length : Int) := by omega
      have hat : (swL S l)[k]? = some (swE S x) := by unfold swL; rw [List.getElem?_map, hx]; rfl
      have Hsn := Lib.hid (show ecs ((swL S l).take (k + 1)) = ecs ((swL S l).take k) ++ ecs [swE S x] by rw [take_at _ k _ hat]; simp [ecs])
      have hsno := swE_no S x
      have hsyes : (hs S x.1.toNat != hs S x.2.1.toNat) = true → swE S x = (x.1, x.2.1, -x.2.2) := fun h => by unfold swE; rw [if_pos h]
      clear hx hat
      obtain ⟨xa, xb, xc⟩ := x
      simp only at hxm hxb c1 c2 c3 hsno hsyes
      obtain ⟨a, rfl⟩ := Int.eq_ofNat_of_zero_le hxm.1
      obtain ⟨d, rfl⟩ := Int.eq_ofNat_of_zero_le hxm.2.2.1
      simp only [Int.toNat_natCast] at hsno hsyes
      have ha' : a < s.size := by omega
      have hd' : d < s.size := by omega
      have Hw := Lib.hid (Hne.out a d ha' hd')
      have haI : (a : Int) < (s.size : Int) := by omega
      have hdI : (d : Int) < (s.size : Int) := by omega
      have e1 : At (w0.alloc (.cells #[.int .i64 a, .int .i64 d, .int .i64 xc] 45)) w0.heap.size 45 (ev ((a : Int), (d : Int), xc)) := At.new _ _ _
      have k1 : Keeps w0 (w0.alloc (.cells #[.int .i64 a, .int .i64 d, .int .i64 xc] 45)) := Keeps.alloc (Below.refl _ _) _
      have hown1 := own_later hown k1
      have hwx : IntKind.i64.wrap (-xc) = -xc := IntWalk.i64_in _ (by omega)
      have hlt0 : w.heap.size ≤ w0.heap.size := hb.size
      have hobn : some w0.heap.size ≠ u5.ownBlock := fun e => by
        rcases hown.2 with ⟨rfl, _⟩ | ⟨g, cap, cur, rfl, _, hg, _⟩
        · cases e
        · have h1 : w0.heap.size = g := by simpa [Value.ownBlock] using e
          have := (Array.getElem?_eq_some_iff.1 hg).1
          omega
      go_upto_region 6 with (fail)
      have hz : ∀ o, (w0.alloc o).heap.size = w0.heap.size + 1 := fun o => by simp
      have hz1' := hz (.cells #[.int .i64 a, .int .i64 d, .int .i64 xc] 45)
      generalize (w0.alloc (.cells #[.int .i64 a, .int .i64 d, .int .i64 xc] 45)) = w1 at *
      obtain ⟨p1, p2, p3⟩ := cells_ev e1
      have B1 : k + 1 ≤ maxLen := by unfold maxLen; omega
      have B2 : (k + 1) * 24 ≤ 140737488355328 := by omega
      obtain ⟨ys, hys⟩ : ∃ ys, ecs ((swL S l).take k) = ys := ⟨_, rfl⟩
      rw [hys] at hown1 Hsn
      have hkk1 : Keeps w w1 := hb.next k1
      have hbs := own_base hown1
      clear hys hown
      cases hcmp : ((s[a].toNat : Int) != (s[d].toNat : Int)) with
      | false =>
        rw [hcmp] at Hw
        have Hse := Lib.hid (hsno Hw.out.symm)
        clear hsno hsyes
        go_quiet (fail)
        have e2 : At (w1.drewN nq) w0.heap.size 45 #[.int .i64 a, .int .i64 d, .int .i64 xc] := e1.later (below_drewN (Below.refl _ _))
        have hown2 := own_later hown1 (below_drewN (n := nq) (Below.refl _ _))
        have k2 : Keeps w (w1.drewN nq) := below_drewN hkk1
        generalize w1.drewN nq = w2 at *
        have hk2s := k2.size
        go_wp2_with (first
          | (refine wpList_load_row rfl 45 _ rfl _ rfl 45 _ _ _ e2 Try.underlying45 rfl (sizeE ((a : Int), (d : Int), xc)) ?_)
          | (at_builtin; refine wpList_append_own_at _ rfl (.tmp 31) (.tmp 33) 22 rfl w.heap.size 45 i0 _ 3 24 Try.underlying22 hi hz0 hz1 hz2 rfl (by decide) _ k ys rfl (own_later hown2 (Keeps.alloc (Below.refl _ _) _)) _ 1 1 [.int .i64 a, .int .i64 d, .int .i64 xc] rfl rfl (new_cells _ _ _ _ rfl) (by simp [Value.oneCell']) B1 B2 (by simp; omega) ?_; intro v9 w9 hown9 hgrow9 _ hl9))
        have k9 : Keeps w w9 := (Keeps.alloc k2 _).grown hgrow9 (by simp; omega) (fun r hr => hbs r hr)
        go_roundw
        case rel => exact ⟨k + 1, by omega, by go_num, by rw [Hsn.out, Hse.out]; exact hown9, k9⟩
        case measure => simp [intOf]; omega
      | true =>
        rw [hcmp] at Hw
        have Hse := Lib.hid (hsyes Hw.out.symm)
        clear hsno hsyes
        go_quiet (fail)
        have e2 : At (w1.drewN nq) w0.heap.size 45 #[.int .i64 a, .int .i64 d, .int .i64 xc] := e1.later (below_drewN (Below.refl _ _))
        have hown2 := own_later hown1 (below_drewN (n := nq) (Below.refl _ _))
        have k2 : Keeps w (w1.drewN nq) := below_drewN hkk1
        generalize w1.drewN nq = w2 at *
        obtain ⟨p1, p2, p3⟩ := cells_ev (x := ((a : Int), (d : Int), xc)) e2
        have hf2 := e2.frozen 2
        have e3 : At (w2.setCell ⟨w0.heap.size, 2, none⟩ (.int .i64 (-xc))) w0.heap.size 45 #[.int .i64 a, .int .i64 d, .int .i64 (-xc)] := e2.set 2 _
        have hown3 : (w2.setCell ⟨w0.heap.size, 2, none⟩ (.int .i64 (-xc))).ownsRow w.heap.size 45 3 u5 k ys := own_set hown2 hobn
        have k3 : Keeps w (w2.setCell ⟨w0.heap.size, 2, none⟩ (.int .i64 (-xc))) := Keeps.setp k2 _ hlt0 _ _
        go_upto_region 8 with fail
        generalize w2.setCell ⟨w0.heap.size, 2, none⟩ (.int .i64 (-xc)) = w3 at *
        clear p1 p2 p3 hf2
        have hk2s := k3.size
        go_wp2_with (first
          | (refine wpList_load_row rfl 45 _ rfl _ rfl 45 _ _ _ e3 Try.underlying45 rfl (sizeE ((a : Int), (d : Int), -xc)) ?_)
          | (at_builtin; refine wpList_append_own_at _ rfl (.tmp 31) (.tmp 33) 22 rfl w.heap.size 45 i0 _ 3 24 Try.underlying22 hi hz0 hz1 hz2 rfl (by decide) _ k ys rfl (own_later hown3 (Keeps.alloc (Below.refl _ _) _)) _ 1 1 [.int .i64 a, .int .i64 d, .int .i64 (-xc)] rfl rfl (new_cells _ _ _ _ rfl) (by simp [Value.oneCell']) B1 B2 (by simp; omega) ?_; intro v9 w9 hown9 hgrow9 _ hl9))
        have k9 : Keeps w w9 := (Keeps.alloc k3 _).grown hgrow9 (by simp; omega) (fun r hr => hbs r hr)
        go_roundw
        case rel => exact ⟨k + 1, by omega, by go_num, by rw [Hsn.out, Hse.out]; exact hown9, k9⟩
        case measure => simp [intOf]; omega
    · obtain rfl : k = l.length := by omega
      rw [List.take_of_length_le (by rw [Hsl.out]; omega)] at hown
      have hr := own_edges (l := swL S l) (by rw [Hsl.out]; exact hown) (by rw [Hsl.out]; unfold maxLen; omega)
      go_wp2_with fail
      go_ret
      exact ⟨_, rfl, hr, hb⟩
theorem own_edges' {w : World} {base : Nat} {e : TypeId} {v : Value} {l : List Ed} {n : Nat} (h : w.ownsRow base e 3 v n (ecs l)) (hn : l.length = n) (hm : n ≤ maxLen) : RdE w v l := by
  subst hn
  exact own_edges h hm
theorem swL_len (S : Nat) (l : List Ed) : (swL S l).length = l.length := by simp [swL]
set_option maxHeartbeats 4000000 in
set_option maxRecDepth 100000 in
theorem law_switches (n : Int) (v1 : Value) (l0 : List Ed) (s0 : ByteArray) (w : World) (hn : (Lit.int .i64 n).wf = true) (hv : RdE w v1 l0) (hcap : Cap v1) (hs : s0.size ≤ maxLen) :
    Calls Try.prog 3 #[.int .i64 n, v1, .string s0] w fun e w' => e = .returned (.bool true) ∧ Keeps w w' := by
  have hed := edges_c v1 l0 w hv hcap
  have hbr := fun X => brief_c s0 hs X
  have hs13 := brief_size s0
  generalize briefS s0 = s at *
  have hl41 : (l0.take 41).length ≤ 41 := by rw [List.length_take]; omega
  generalize l0.take 41 = l at *
  have hgr := fun v X hX => rgraph_c n v l hl41 X hX
  have hsi := fun X => rside_c n s hs13 X
  by_cases hb : (graphB n l && sideB n s) = true
  · obtain ⟨hg, hsd⟩ := Bool.and_eq_true_iff.1 hb
    obtain ⟨n1, n12⟩ := graphB_n hg
    obtain ⟨d, rfl⟩ := Int.eq_ofNat_of_zero_le (show 0 ≤ n by omega)
    have hE := graphB_edges hg
    have hsz : s.size = d ∧ s.data.toList.all okC = true := by
      unfold sideB at hsd
      simp only [Bool.and_eq_true, decide_eq_true_eq] at hsd
      exact ⟨by omega, hsd.2⟩
    have hbl := graphB_below hg s.size (by omega)
    have hsw := fun v X hX => Switch_yes d v l s hg hsd X hX
    have hrs := fun v X hX => rswitch_c v l s hE hbl (by omega) hsz.2 X hX
    have hlen := swL_len (rdS s.data.toList s.size) l
    generalize swL (rdS s.data.toList s.size) l = L at *
    have hsm := fun v v' X h h' => same_c v v' L (by omega) X h h'
    rw [hg] at hgr
    rw [hsd] at hsi
    have Hlen := Lib.hid hlen
    clear hb hg hsd hE hsz hbl hcap hn hv hs hs13 hlen
    go_enter Try.func3, Try.ntmps3
    go_upto_region 5 with (first
      | (go_at_call 9; refine hed.mono ?_; rintro e w1 ⟨A, c, rfl, hv1, hb1⟩)
      | (go_at_call 10; refine (hbr _).mono ?_; rintro e w2 ⟨rfl, rfl⟩)
      | (go_at_call 11; refine (hsw _ _ hv1).mono ?_; rintro e w3 ⟨u, rfl, hown, hb3⟩; have hr3 := own_edges' hown Hlen.out (by unfold maxLen; omega); have hv3 := hv1.below hb3; have hk3 := hb1.next hb3)
      | (go_at_call 12; refine (hgr _ _ hv3).mono ?_; rintro e w5 ⟨rfl, m5, rfl⟩)
      | (go_at_call 13; refine (hsi _).mono ?_; rintro e w6 ⟨rfl, m6, rfl⟩))
    go_wp2_with (first
      | (go_at_call 16; refine (hrs _ _ (hv3.below (below_drewN (Below.refl _ _)))).mono ?_; rintro e w7 ⟨u7, rfl, hr7, hb7⟩; have hk7 := Keeps.next (below_drewN hk3) hb7; have hr8 := (hr3.below (below_drewN (Below.refl _ _))).below hb7)
      | (go_at_call 15; refine (hsm _ _ _ hr8 hr7).mono ?_; rintro e w9 ⟨rfl, hb9⟩; have hk9 := hk7.next hb9)
      | (go_at_call 14; refine (awake_c _).mono ?_; rintro e w10 ⟨rfl, hb10⟩; have hk10 := hk9.next hb10))
    go_ret
    exact ⟨rfl, hk10⟩
  · have hbf : (graphB n l && sideB n s) = false := by simpa using hb
    have hsw := fun v X hX => Switch_no n v l s hbf X hX
    clear hb hcap hn hv hs
    cases hg : graphB n l with
    | false =>
      rw [hg] at hgr
      clear hg hbf
      go_enter Try.func3, Try.ntmps3
      go_wp2_with (first
        | (go_at_call 9; refine hed.mono ?_; rintro e w1 ⟨A, c, rfl, hv1, hb1⟩)
        | (go_at_call 10; refine (hbr _).mono ?_; rintro e w2 ⟨rfl, rfl⟩)
        | (go_at_call 11; refine (hsw _ _ hv1).mono ?_; rintro e w3 ⟨rfl, hb3⟩; have hv3 := hv1.below hb3; have hk3 := hb1.next hb3)
        | (go_at_call 12; refine (hgr _ _ hv3).mono ?_; rintro e w5 ⟨rfl, m5, rfl⟩)
        | (go_at_call 13; refine (hsi _).mono ?_; rintro e w6 ⟨rfl, m6, rfl⟩)
        | (go_at_call 14; refine (awake_c _).mono ?_; rintro e w10 ⟨rfl, hb10⟩; have hk10 := Keeps.next (below_drewN hk3) hb10))
      go_ret
      exact ⟨rfl, hk10⟩
    | true =>
      rw [hg] at hgr hbf
      rw [Bool.true_and] at hbf
      rw [hbf] at hsi
      clear hg hbf
      go_enter Try.func3, Try.ntmps3
      go_wp2_with (first
        | (go_at_call 9; refine hed.mono ?_; rintro e w1 ⟨A, c, rfl, hv1, hb1⟩)
        | (go_at_call 10; refine (hbr _).mono ?_; rintro e w2 ⟨rfl, rfl⟩)
        | (go_at_call 11; refine (hsw _ _ hv1).mono ?_; rintro e w3 ⟨rfl, hb3⟩; have hv3 := hv1.below hb3; have hk3 := hb1.next hb3)
        | (go_at_call 12; refine (hgr _ _ hv3).mono ?_; rintro e w5 ⟨rfl, m5, rfl⟩)
        | (go_at_call 13; refine (hsi _).mono ?_; rintro e w6 ⟨rfl, m6, rfl⟩)
        | (go_at_call 14; refine (awake_c _).mono ?_; rintro e w10 ⟨rfl, hb10⟩; have hk10 := Keeps.next (below_drewN hk3) hb10))
      go_ret
      exact ⟨rfl, hk10⟩
end Go.Proofs.Ytkecigfgggeleaa
