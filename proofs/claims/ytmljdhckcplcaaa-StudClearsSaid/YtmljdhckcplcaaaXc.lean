/- The walk of the reference's Triangle. -/
import Derived.Test.YtmljdhckcplcaaaXa
import Derived.Test.YtmljdhckcplcaaaUa
import Derived.Test.YtmljdhckcplcaaaWe
import Derived.Deep.AppendLies
namespace Go.Proofs.Ytmljdhckcplcaaa
open Go.RowKit Go.Shelf
set_option linter.unusedVariables false
set_option linter.unusedSimpArgs false

def triR (l : List Int) (d : Nat) : List Int := (List.range (l.length - 1 - d)).map fun i => stp2 l i (i + (d + 1))
theorem triR_at (l : List Int) (d q : Nat) (h : q + (d + 1) < l.length) : (triR l d).take (q + 1) = (triR l d).take q ++ [nth l (q + (d + 1)) - nth l q] := by
  rw [take_nth _ _ (by simp [triR]; omega)]
  congr 1
  simp [triR, nth, show q < l.length - 1 - d by omega, stp2]
theorem triL_take (l : List Int) (k : Nat) (h : k < l.length - 1) : (triL l).take (k + 1) = (triL l).take k ++ [triR l k] := by
  have h1 : k < (triL l).length := by rw [triL_len]; exact h
  rw [List.take_succ_eq_append_getElem h1]
  congr 1
  simp [triL, triR]
theorem keeps_dr9 {a w : World} (h : Keeps a w) : Keeps a w.drew := below_drewN (n := 1) h
theorem nth_16 (l : List Int) (h : l.all (hasB 16) = true) (j : Nat) (hj : j < l.length) : 0 ≤ nth l j ∧ nth l j < 16 := (hasB_iff _ _).1 (List.all_eq_true.1 h _ (nth_mem l j hj))
theorem own_one {w : World} {base : Nat} {e : TypeId} {size n : Nat} {v : Value} {xs : List Value} (h : w.ownsRow base e size v n xs) : v.oneCell' = true := by
  rcases h.2 with ⟨rfl, _⟩ | ⟨g, cap, cur, rfl, _⟩ <;> rfl
theorem triR_len (l : List Int) (d : Nat) : (triR l d).length = l.length - 1 - d := by simp [triR]
set_option maxHeartbeats 4000000 in
set_option maxRecDepth 100000 in
theorem rtriangle_c (A : Option Addr) (c : Nat) (l : List Int) (h1 : 1 ≤ l.length) (h16 : l.length ≤ 16) (hb16 : l.all (hasB 16) = true) (w : World) (hv : RdI w (.slice A l.length c) l) :
    Calls Try.prog 13 #[.slice A l.length c] w fun e w' => ∃ v, e = .returned v ∧ RdT w' v (triL l) ∧ Keeps w w' := by
  obtain ⟨i0, hi, hz0, hz1, hz2⟩ := info_parts infoI
  obtain ⟨j0, hj, hy0, hy1, hy2⟩ := info_parts infoRow
  have Hb := Lib.hid hb16
  clear hb16
  go_enter Try.func13, Try.ntmps13
  go_wp2_with fail
  go_loopw [3, 4] (fun o i wr => ∃ k d : Nat, d = k + 1 ∧ d ≤ l.length ∧ i = .int .i64 (d : Int) ∧ OR w.heap.size wr o ((triL l).take k) ∧ Keeps w wr) (fun _ i _ => l.length - (intOf i).toNat)
  case atStart => exact ⟨0, 1, rfl, h1, rfl, OR.nil _ _, Below.refl _ _⟩
  case round =>
    obtain ⟨k, d, hd, hk, rfl, hor, hb⟩ := hrel
    by_cases hlt : d < l.length
    · obtain ⟨us, u1, u2, u3⟩ := hor
      have htl : ((triL l).take k).length = k := by rw [List.length_take, triL_len]; omega
      rw [htl] at u1 u2
      have U3 := Lib.hid u3
      have U1 := Lib.hid u1
      have Holt := Lib.hid (own_lt' u2)
      have Hobs := Lib.hid (own_base u2)
      have hcs := hv
      obtain ⟨A', c', he, hmx, hcell⟩ := id hv
      cases he
      obtain ⟨bo, oo, _, rfl, _, _⟩ := hcell 0 (by omega)
      have hce : ∀ j, j < l.length → w.cell? ⟨bo, oo + j, none⟩ = some (.int .i64 (nth l j)) := fun j hj => by
        obtain ⟨b', o', y, e1, e2, rfl⟩ := hcell j hj
        cases e1; exact e2
      have Hce := Lib.hid hce
      clear u1 u3 hcell hcs hce hmx
      have dk : (d : Int) < (l.length : Int) := by omega
      have Hd := Lib.hid hd
      clear hd
      go_wp2_with fail
      generalize wr = w3 at *
      have hwb := hb.size
      go_loopw [5, 6] (fun u i wr => ∃ q : Nat, q + d ≤ l.length ∧ i = .int .i64 q ∧ wr.ownsRow w3.heap.size 3 1 u q (((triR l k).take q).map (Value.int .i64)) ∧ Keeps w3 wr) (fun _ i _ => l.length - (intOf i).toNat)
      case atStart => exact ⟨0, by omega, rfl, World.ownsRow_nil _ _ _ _, Below.refl _ _⟩
      case round =>
        obtain ⟨q, hq, rfl, hown, hb3⟩ := hrel
        have hwI : IntKind.i64.wrap ((q : Int) + (d : Int)) = ((q + d : Nat) : Int) := by rw [IntWalk.i64_in _ (by omega)]; omega
        by_cases hqt : q + d < l.length
        · have cE := cell_keep (Hce.out (q + d) hqt) hb
          have cQ := cell_keep (Hce.out q (by omega)) hb
          have Hat := Lib.hid (triR_at l k q (by have := Hd.out; omega))
          rw [← Hd.out] at Hat
          obtain ⟨e, he⟩ : ∃ e, q + d = e := ⟨_, rfl⟩
          have He := Lib.hid he
          rw [he] at hwI cE hqt Hat
          have hn1 := nth_16 l Hb.out e hqt
          have hn2 := nth_16 l Hb.out q (by omega)
          have hwD : IntKind.i64.wrap (nth l e - nth l q) = nth l e - nth l q := IntWalk.i64_in _ (by omega)
          obtain ⟨D, hD⟩ : ∃ D, nth l e - nth l q = D := ⟨_, rfl⟩
          rw [hD] at hwD
          have HD := Lib.hid hD
          have hwD' : IntKind.i64.wrap (nth l e - nth l q) = D := by rw [hD]; exact hwD
          clear hwD hD hn1 hn2
          generalize nth l e = XE at *
          generalize nth l q = XQ at *
          have hEI : (e : Int) < (l.length : Int) := by omega
          clear he
          have hQI : (q : Int) < (l.length : Int) := by have := He.out; omega
          have B1 : q + 1 ≤ maxLen := by unfold maxLen; omega
          have B2 : (q + 1) * 8 ≤ 140737488355328 := by omega
          have hlt' := hb3.size
          obtain ⟨xs, hxs⟩ : ∃ xs, ((triR l k).take q).map (Value.int .i64) = xs := ⟨_, rfl⟩
          rw [hxs] at hown
          have Hxs := Lib.hid hxs
          clear hxs
          have hbs := own_base hown
          go_upto_region 9 with fail
          refine region_any_early [5] (G := Nat × Value × Value) (f := ?fa) (fun G => [u5, .slice (some ⟨bo, oo, none⟩) l.length c, .int .i64 q, .int .i64 (d : Int), .int .i64 (e : Int), .pointer (some ⟨bo, oo + e, none⟩), .int .i64 XE, .slice (some ⟨bo, oo, none⟩) l.length c, .int .i64 q, .pointer (some ⟨bo, oo + q, none⟩), .int .i64 XQ, .int .i64 D, .slice (some ⟨G.1, 0, none⟩) 1 1, G.2.1, G.2.2])
            (fun G L w' => Keeps w3 w' ∧ (L 12 = true → L 13 = false → At w' G.1 3 #[.int .i64 D]) ∧ (L 13 = false → w'.ownsRow w3.heap.size 3 1 u5 q xs) ∧ (L 13 = true → w'.ownsRow w3.heap.size 3 1 G.2.1 (q + 1) (xs ++ [.int .i64 D])) ∧ (L 14 = false → G.2.2 = u5) ∧ (L 14 = true → G.2.2 = G.2.1))
            (0, undef, u5) (fun _ => ?hfa) (by kernel_rfl) (by kernel_rfl) ?hE ⟨keeps_dr9 hb3, fun h => (by cases h), fun _ => hown, fun h => (by cases h), fun _ => rfl, fun h => (by cases h)⟩ ?stepsa ?fina
          case hfa =>
            simp only [fill, List.toList_toArray, List.zip_cons_cons, List.zip_nil_left, List.zip_nil_right, List.foldl_cons, List.foldl_nil, Act.put, List.setIfInBounds_toArray, List.set_cons_succ, List.set_cons_zero]
            exact rfl
          case hE =>
            intro t ht
            simp only [List.mem_singleton] at ht
            subst ht
            rfl
          case stepsa =>
            refine StepsU.cons rfl (fun G L w' hL hr hc hF => ?_) ?_
            · obtain ⟨q1, q2, q3, q4, q5, q6⟩ := hF
              have e14 := hc.not 14 0 rfl rfl hL
              obtain ⟨G1, v1, v2⟩ := G
              obtain rfl : v2 = u5 := q5 e14
              refine StepU.go rfl (fun K hK => ?_)
              go_simp
              exact hK (G1, v1, _) _ ⟨q1, q2, q3, q4, q5, q6⟩
            refine StepsU.cons rfl (fun G L w' hL hr hc hF => ?_) ?_
            · obtain ⟨q1, q2, q3, q4, q5, q6⟩ := hF
              have e14 := hc.not 14 1 rfl rfl hL
              obtain ⟨G1, v1, v2⟩ := G
              obtain rfl : v2 = u5 := q5 e14
              refine StepU.go rfl (fun K hK => ?_)
              go_simp
              exact hK (G1, v1, _) _ ⟨q1, q2, q3, q4, q5, q6⟩
            refine StepsU.cons rfl (fun G L w' hL hr hc hF => ?_) ?_
            · obtain ⟨q1, q2, q3, q4, q5, q6⟩ := hF
              have e14 := hc.not 14 2 rfl rfl hL
              obtain ⟨G1, v1, v2⟩ := G
              obtain rfl : v2 = u5 := q5 e14
              refine StepU.go rfl (fun K hK => ?_)
              go_simp
              exact hK (G1, v1, _) _ ⟨q1, q2, q3, q4, q5, q6⟩
            refine StepsU.cons rfl (fun G L w' hL hr hc hF => ?_) ?_
            · obtain ⟨q1, q2, q3, q4, q5, q6⟩ := hF
              have e14 := hc.not 14 3 rfl rfl hL
              obtain ⟨G1, v1, v2⟩ := G
              obtain rfl : v2 = u5 := q5 e14
              refine StepU.go rfl (fun K hK => ?_)
              go_simp
              exact hK (G1, v1, _) _ ⟨q1, q2, q3, q4, q5, q6⟩
            refine StepsU.cons rfl (fun G L w' hL hr hc hF => ?_) ?_
            · obtain ⟨q1, q2, q3, q4, q5, q6⟩ := hF
              have e14 := hc.not 14 4 rfl rfl hL
              obtain ⟨G1, v1, v2⟩ := G
              obtain rfl : v2 = u5 := q5 e14
              refine StepU.go rfl (fun K hK => ?_)
              go_simp
              exact hK (G1, v1, _) _ ⟨q1, q2, q3, q4, q5, q6⟩
            refine StepsU.cons rfl (fun G L w' hL hr hc hF => ?_) ?_
            · obtain ⟨q1, q2, q3, q4, q5, q6⟩ := hF
              have e14 := hc.not 14 5 rfl rfl hL
              obtain ⟨G1, v1, v2⟩ := G
              obtain rfl : v2 = u5 := q5 e14
              refine StepU.go rfl (fun K hK => ?_)
              go_simp
              exact hK (G1, v1, _) _ ⟨q1, q2, q3, q4, q5, q6⟩
            refine StepsU.cons rfl (fun G L w' hL hr hc hF => ?_) ?_
            · obtain ⟨q1, q2, q3, q4, q5, q6⟩ := hF
              have e14 := hc.not 14 6 rfl rfl hL
              obtain ⟨G1, v1, v2⟩ := G
              obtain rfl : v2 = u5 := q5 e14
              have c9 := cell_keep cE q1
              refine StepU.go rfl (fun K hK => ?_)
              go_simp
              exact hK (G1, v1, _) _ ⟨q1, q2, q3, q4, q5, q6⟩
            refine StepsU.cons rfl (fun G L w' hL hr hc hF => ?_) ?_
            · obtain ⟨q1, q2, q3, q4, q5, q6⟩ := hF
              have e14 := hc.not 14 7 rfl rfl hL
              obtain ⟨G1, v1, v2⟩ := G
              obtain rfl : v2 = u5 := q5 e14
              refine StepU.go rfl (fun K hK => ?_)
              go_simp
              exact hK (G1, v1, _) _ ⟨q1, q2, q3, q4, q5, q6⟩
            refine StepsU.cons rfl (fun G L w' hL hr hc hF => ?_) ?_
            · obtain ⟨q1, q2, q3, q4, q5, q6⟩ := hF
              have e14 := hc.not 14 8 rfl rfl hL
              obtain ⟨G1, v1, v2⟩ := G
              obtain rfl : v2 = u5 := q5 e14
              refine StepU.go rfl (fun K hK => ?_)
              go_simp
              exact hK (G1, v1, _) _ ⟨q1, q2, q3, q4, q5, q6⟩
            refine StepsU.cons rfl (fun G L w' hL hr hc hF => ?_) ?_
            · obtain ⟨q1, q2, q3, q4, q5, q6⟩ := hF
              have e14 := hc.not 14 9 rfl rfl hL
              obtain ⟨G1, v1, v2⟩ := G
              obtain rfl : v2 = u5 := q5 e14
              refine StepU.go rfl (fun K hK => ?_)
              go_simp
              exact hK (G1, v1, _) _ ⟨q1, q2, q3, q4, q5, q6⟩
            refine StepsU.cons rfl (fun G L w' hL hr hc hF => ?_) ?_
            · obtain ⟨q1, q2, q3, q4, q5, q6⟩ := hF
              have e14 := hc.not 14 10 rfl rfl hL
              obtain ⟨G1, v1, v2⟩ := G
              obtain rfl : v2 = u5 := q5 e14
              have c9 := cell_keep cQ q1
              refine StepU.go rfl (fun K hK => ?_)
              go_simp
              exact hK (G1, v1, _) _ ⟨q1, q2, q3, q4, q5, q6⟩
            refine StepsU.cons rfl (fun G L w' hL hr hc hF => ?_) ?_
            · obtain ⟨q1, q2, q3, q4, q5, q6⟩ := hF
              have e14 := hc.not 14 11 rfl rfl hL
              obtain ⟨G1, v1, v2⟩ := G
              obtain rfl : v2 = u5 := q5 e14
              refine StepU.go rfl (fun K hK => ?_)
              go_simp
              exact hK (G1, v1, _) _ ⟨q1, q2, q3, q4, q5, q6⟩
            refine StepsU.cons rfl (fun G L w' hL hr hc hF => ?_) ?_
            · obtain ⟨q1, q2, q3, q4, q5, q6⟩ := hF
              have e14 := hc.not 14 12 rfl rfl hL
              obtain ⟨G1, v1, v2⟩ := G
              obtain rfl : v2 = u5 := q5 e14
              have e := hc.not 13 12 rfl rfl hL
              refine StepU.go rfl (fun K hK => ?_)
              go_simp
              exact hK (w'.heap.size, v1, _) _ ⟨Keeps.alloc q1 _, fun _ _ => At.new _ _ _, fun h => own_later (q3 h) (Keeps.alloc (Below.refl _ _) _), fun h => (by have h' : L 13 = true := h; rw [e] at h'; cases h'), q5, q6⟩
            refine StepsU.cons rfl (fun G L w' hL hr hc hF => ?_) ?_
            · obtain ⟨q1, q2, q3, q4, q5, q6⟩ := hF
              have e14 := hc.not 14 13 rfl rfl hL
              obtain ⟨G1, v1, v2⟩ := G
              obtain rfl : v2 = u5 := q5 e14
              have h12 := q2 (hr 12 rfl) hL
              have ho := q3 hL
              have hsw := q1.size
              refine StepU.go rfl (fun K hK => ?_)
              refine wp_append_lies w' (.tmp 21) (.tmp 33) 22 rfl w3.heap.size 3 i0 (.int .i64 0) 1 8 Try.underlying22 hi hz0 hz1 hz2 rfl (by decide) v2 q xs rfl ho ⟨G1, 0, none⟩ 1 1 [.int .i64 D] rfl rfl (World.news_of_block h12) (by simp [Value.oneCell']) (by decide) B1 B2 (by omega) w'.heap.size rfl ?_
              intro g5 cap5 w5 hown5 hgrow5 hl5 _
              refine hK (G1, .slice (some ⟨g5, 0, none⟩) (q + 1) cap5, _) _ ?_
              exact ⟨q1.grown hgrow5 hsw (fun k9 e => hbs k9 e), fun _ h => (by rw [add_same] at h; cases h), fun h => (by rw [add_same] at h; cases h), fun _ => hown5, q5, fun h => (by have h' : L 14 = true := h; rw [e14] at h'; cases h')⟩
            refine StepsU.cons rfl (fun G L w' hL hr hc hF => ?_) ?_
            · obtain ⟨q1, q2, q3, q4, q5, q6⟩ := hF
              obtain ⟨G1, v1, v2⟩ := G
              refine StepU.go rfl (fun K hK => ?_)
              go_simp
              exact hK (G1, v1, v1) _ ⟨q1, q2, q3, q4, fun h => (by rw [add_same] at h; cases h), fun _ => rfl⟩
            exact StepsU.nil (by simp)
          case fina =>
          intro G L w4 hall hF
          obtain ⟨k4, _, _, o4, _, u4⟩ := hF
          have u4 := u4 (hall 14 (by simp))
          have hown4 := o4 (hall 13 (by simp))
          clear hall o4
          obtain ⟨G1, v', v2⟩ := G
          simp only at hown4 u4
          subst u4
          go_wp2_with fail
          go_roundw
          case rel => exact ⟨q + 1, by have := He.out; omega, by go_num, by rw [Hat.out, HD.out, List.map_append, Hxs.out]; exact hown4, k4⟩
          case measure => simp [intOf]; omega
        · have hqe : q + d = l.length := by omega
          obtain ⟨g5, cap5, rfl, -⟩ := own_form hown (by omega)
          have htk : (triR l k).take q = triR l k := List.take_of_length_le (by rw [triR_len]; have := Hd.out; omega)
          rw [htk] at hown
          have hlq : (triR l k).length = q := by rw [triR_len]; have := Hd.out; omega
          have hrow : RdIB (fun r => w3.heap.size ≤ r) wr (.slice (some ⟨g5, 0, none⟩) q cap5) (triR l k) := by
            have := own_ints (l := triR l k) (by rw [hlq]; exact hown) (by rw [hlq]; unfold maxLen; omega)
            exact this
          have hown' := own_later u2 hb3
          have s4 : (k + 1) * 24 ≤ 140737488355328 := by have := Hd.out; omega
          have s5 : k + 1 ≤ maxLen := by have := Hd.out; unfold maxLen; omega
          have Hrow := Lib.hid hrow
          have hs3 := hb3.size
          have hs2 : w.heap.size ≤ (wr.alloc (.cells #[(.slice (some ⟨g5, 0, none⟩) q cap5)] 22)).heap.size := by simp; omega
          clear hown hrow htk
          generalize wr = w4 at *
          go_wp2_with (at_builtin; refine wpList_append_own_at _ rfl (.tmp 35) (.tmp 37) 28 rfl w.heap.size 22 j0 (.slice none 0 0) 1 24 Try.underlying28 hj hy0 hy1 hy2 rfl (by decide) _ k us rfl (hown'.alloc _) ⟨w4.heap.size, 0, none⟩ 1 1 [(.slice (some ⟨g5, 0, none⟩) q cap5)] rfl rfl (new_cells _ _ _ _ rfl) (by simp [Value.oneCell']) s5 s4 hs2 ?_; intro v9 w9 hown9 hgrow9 _ hl9)
          obtain ⟨g9, cap9, rfl, _, _, _, _, _⟩ := own_form hown9 (by omega)
          go_roundw
          case rel =>
            refine ⟨k + 1, d + 1, by rw [Hd.out], by omega, by go_num, ?_, below_grown2 (Keeps.alloc (hb.next hb3) _) hgrow9 Hobs.out (Nat.le_refl _) (by simp; omega)⟩
            rw [triL_take l k (by have := Hd.out; omega)]
            refine ⟨us ++ [Value.slice (some ⟨g5, 0, none⟩) q cap5], by rw [List.length_append, List.length_append, htl, U1.out]; rfl, ?_, OR.step (by rw [U1.out, htl]) U3.out Holt.out (by omega) hb3 Hrow.out _ hgrow9 (hl9.imp (fun e => e.symm) (fun e => by simpa [Value.ownBlock] using e))⟩
            rw [List.length_append, htl]
            exact hown9
          case measure => simp [intOf]; omega
    · have hde : d = l.length := by omega
      have hrd := hor.read (by rw [List.length_take, triL_len]; unfold maxLen; omega)
      rw [List.take_of_length_le (by rw [triL_len]; omega)] at hrd
      clear hd
      go_wp2_with fail
      go_ret
      exact ⟨_, rfl, hrd, hb⟩
end Go.Proofs.Ytmljdhckcplcaaa
