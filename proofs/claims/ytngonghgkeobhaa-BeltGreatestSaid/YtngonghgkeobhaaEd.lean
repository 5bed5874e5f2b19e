/- The reference's All. -/
import Derived.Test.YtngonghgkeobhaaEc
namespace Go.Proofs.Ytngonghgkeobhaa
open Go.RowKit Go.Shelf
set_option linter.unusedVariables false
set_option linter.unusedSimpArgs false

theorem infoS1 : (Try.prog.info? 9).map (fun i => (i.zero, i.size, i.bytes)) = some (some (.string ByteArray.empty), 1, 16) := by kernel_rfl
theorem own_strs {w : World} {base : Nat} {e : TypeId} {v : Value} {l : List ByteArray} (h : w.ownsRow base e 1 v l.length (l.map Value.string)) (hm : l.length ≤ maxLen) : RdS w v l :=
  RdB.rd (own_list (P := fun i x => ∃ s, l[i]? = some s ∧ x = .string s) h hm (fun i x hx => by
    rw [List.getElem?_map] at hx
    obtain ⟨s, h1, h2⟩ := Option.map_eq_some_iff.1 hx
    exact ⟨s, h1, h2.symm⟩)) (fun _ _ h => h)
theorem sdl_zero : sdl 0 = [ByteArray.empty] := by rfl
theorem pow12 (i : Nat) (h : i ≤ 12) : 2 ^ i ≤ 4096 := Nat.pow_le_pow_right (by decide) h
set_option maxHeartbeats 4000000 in
set_option maxRecDepth 100000 in
theorem all_c (n : Nat) (hn : n ≤ 12) (w : World) :
    Calls Try.prog 47 #[.int .i64 n] w fun e w' => ∃ v, e = .returned v ∧ RdS w' v (sdl n) ∧ Keeps w w' := by
  obtain ⟨i0, hi, hz0, hz1, hz2⟩ := info_parts infoS1
  go_enter Try.func47, Try.ntmps47
  go_wp2_with fail
  go_loopw [3, 4] (fun o i wr => ∃ k : Nat, k ≤ n ∧ i = .int .i64 k ∧ RdS wr o (sdl k) ∧ Keeps w wr) (fun _ i _ => n - (intOf i).toNat)
  case atStart =>
    refine ⟨0, Nat.zero_le _, rfl, ?_, Keeps.alloc (Below.refl _ _) _⟩
    rw [sdl_zero]
    refine ⟨_, _, rfl, by show 1 ≤ maxLen; unfold maxLen; omega, fun j hj => ?_⟩
    obtain rfl : j = 0 := by have : j < 1 := hj; omega
    exact ⟨w.heap.size, 0, .string ByteArray.empty, rfl, (At.new w _ _).cell 0, _, rfl, rfl⟩
  case round =>
    obtain ⟨k, hk, rfl, hrd, hb⟩ := hrel
    by_cases hlt : k < n
    · obtain ⟨A, c, rfl, hm, hcs⟩ := id hrd
      have hp := pow12 k (by omega)
      have Hlen := Lib.hid (sdl_length k)
      obtain ⟨N, hN⟩ : ∃ N, (sdl k).length = N := ⟨_, rfl⟩
      have HN := Lib.hid (show N = 2 ^ k from hN.symm.trans Hlen.out)
      have HN4 := Lib.hid (show N ≤ 4096 by have := HN.out; omega)
      rw [hN] at hcs
      rw [hN] at hrd ⊢
      have hlenI : (N : Int) ≤ 4096 := by have := HN4.out; omega
      have Hcs := Lib.hid hcs
      have HsN := Lib.hid hN
      clear hcs hm hN hp
      go_wp2_with fail
      generalize wr = w3 at *
      go_loopw [5, 6] (fun u j wr => ∃ q : Nat, q ≤ N ∧ j = .int .i64 q ∧ wr.ownsRow w3.heap.size 9 1 u (2 * q) (((sdl (k + 1)).take (2 * q)).map Value.string) ∧ Keeps w3 wr) (fun _ j _ => N - (intOf j).toNat)
      case atStart => exact ⟨0, Nat.zero_le _, rfl, World.ownsRow_nil _ _ _ _, Below.refl _ _⟩
      case round =>
        obtain ⟨q, hq, rfl, hown, hb3⟩ := hrel
        by_cases hqt : q < N
        · obtain ⟨b, off, u8, rfl, hcl0, s, hs, rfl⟩ := Hcs.out q hqt
          have hq2 : q < 2 ^ k := by rw [← HN.out]; exact hqt
          rw [sdl_at k q hq2, Option.some.injEq] at hs
          have hp2 : 2 ^ (k + 1) = 2 ^ k * 2 := Nat.pow_succ 2 k
          have a0 := sdl_at (k + 1) (2 * q) (by omega)
          have a1 := sdl_at (k + 1) (2 * q + 1) (by omega)
          rw [sdl_even k q (by omega), hs] at a0
          rw [sdl_odd k q (by omega), hs] at a1
          have hsz : s.size = k := by rw [← hs]; exact TX_size _ _
          have Hat := Lib.hid (show (sdl (k + 1)).take (2 * (q + 1)) = (sdl (k + 1)).take (2 * q) ++ [s ++ ⟨#[48]⟩, s ++ ⟨#[49]⟩] by
            rw [show 2 * (q + 1) = 2 * q + 1 + 1 by omega, take_at _ _ _ a1, take_at _ _ _ a0, List.append_assoc]; rfl)
          obtain ⟨T0, hT0⟩ : ∃ T0, s ++ ⟨#[48]⟩ = T0 := ⟨_, rfl⟩
          obtain ⟨T1, hT1⟩ : ∃ T1, s ++ ⟨#[49]⟩ = T1 := ⟨_, rfl⟩
          rw [hT0, hT1] at Hat
          have HT0 := Lib.hid hT0
          have HT1 := Lib.hid hT1
          have B1 : 2 * q + 2 ≤ maxLen := by have := HN4.out; unfold maxLen; omega
          have B2 : (2 * q + 2) * 16 ≤ 140737488355328 := by have := HN4.out; omega
          have hqI : (q : Int) < (N : Int) := by omega
          obtain ⟨xs, hxs⟩ : ∃ xs, ((sdl (k + 1)).take (2 * q)).map Value.string = xs := ⟨_, rfl⟩
          rw [hxs] at hown
          have Hxs := Lib.hid hxs
          have hbs := own_base hown
          clear hxs hs a0 a1 hp2 hT0 hT1 hq2
          go_upto_region 8 with fail
          refine region_any_early [5] (G := Nat × Value × Value) (f := ?fa) (fun G => [u5, .slice (some ⟨b, off, none⟩) N c, .int .i64 q, .pointer (some ⟨b, off + q, none⟩), .string s, .string T0, .slice (some ⟨b, off, none⟩) N c, .int .i64 q, .pointer (some ⟨b, off + q, none⟩), .string s, .string T1, .slice (some ⟨G.1, 0, none⟩) 2 2, G.2.1, G.2.2])
            (fun G L w' => Keeps w3 w' ∧ (L 11 = true → L 12 = false → At w' G.1 9 #[.string T0, .string T1]) ∧ (L 12 = false → w'.ownsRow w3.heap.size 9 1 u5 (2 * q) xs) ∧ (L 12 = true → w'.ownsRow w3.heap.size 9 1 G.2.1 (2 * q + 2) (xs ++ [.string T0, .string T1])) ∧ (L 13 = false → G.2.2 = u5) ∧ (L 13 = true → G.2.2 = G.2.1))
            (0, undef, u5) (fun _ => ?hfa) (by kernel_rfl) (by kernel_rfl) ?hE ⟨below_drewN (n := 1) hb3, fun h => (by cases h), fun _ => hown, fun h => (by cases h), fun _ => rfl, fun h => (by cases h)⟩ ?stepsa ?fina
          case hfa =>
            simp only [fill, List.toList_toArray, List.zip_cons_cons, List.zip_nil_left, List.zip_nil_right, List.foldl_cons, List.foldl_nil, Act.put, List.setIfInBounds_toArray, List.set_cons_succ, List.set_cons_zero]
            exact rfl
          case hE =>
            intro t ht
            simp only [List.mem_singleton] at ht
            subst ht
            rfl
          case stepsa =>
            refine StepsU.cons rfl (fun G L w' hL hr hc hF => ?_) ?_
            · obtain ⟨q1, q2, q3, q4, q5, q6⟩ := hF
              have e13 := hc.not 13 0 rfl rfl hL
              obtain ⟨G1, v1, v2⟩ := G
              obtain rfl : v2 = u5 := q5 e13
              refine StepU.go rfl (fun K hK => ?_)
              go_simp
              exact hK (G1, v1, _) _ ⟨q1, q2, q3, q4, q5, q6⟩
            refine StepsU.cons rfl (fun G L w' hL hr hc hF => ?_) ?_
            · obtain ⟨q1, q2, q3, q4, q5, q6⟩ := hF
              have e13 := hc.not 13 1 rfl rfl hL
              obtain ⟨G1, v1, v2⟩ := G
              obtain rfl : v2 = u5 := q5 e13
              refine StepU.go rfl (fun K hK => ?_)
              go_simp
              exact hK (G1, v1, _) _ ⟨q1, q2, q3, q4, q5, q6⟩
            refine StepsU.cons rfl (fun G L w' hL hr hc hF => ?_) ?_
            · obtain ⟨q1, q2, q3, q4, q5, q6⟩ := hF
              have e13 := hc.not 13 2 rfl rfl hL
              obtain ⟨G1, v1, v2⟩ := G
              obtain rfl : v2 = u5 := q5 e13
              refine StepU.go rfl (fun K hK => ?_)
              go_simp
              exact hK (G1, v1, _) _ ⟨q1, q2, q3, q4, q5, q6⟩
            refine StepsU.cons rfl (fun G L w' hL hr hc hF => ?_) ?_
            · obtain ⟨q1, q2, q3, q4, q5, q6⟩ := hF
              have e13 := hc.not 13 3 rfl rfl hL
              obtain ⟨G1, v1, v2⟩ := G
              obtain rfl : v2 = u5 := q5 e13
              refine StepU.go rfl (fun K hK => ?_)
              go_simp
              exact hK (G1, v1, _) _ ⟨q1, q2, q3, q4, q5, q6⟩
            refine StepsU.cons rfl (fun G L w' hL hr hc hF => ?_) ?_
            · obtain ⟨q1, q2, q3, q4, q5, q6⟩ := hF
              have e13 := hc.not 13 4 rfl rfl hL
              obtain ⟨G1, v1, v2⟩ := G
              obtain rfl : v2 = u5 := q5 e13
              have c9 := cell_keep hcl0 q1
              refine StepU.go rfl (fun K hK => ?_)
              go_simp
              exact hK (G1, v1, _) _ ⟨q1, q2, q3, q4, q5, q6⟩
            refine StepsU.cons rfl (fun G L w' hL hr hc hF => ?_) ?_
            · obtain ⟨q1, q2, q3, q4, q5, q6⟩ := hF
              have e13 := hc.not 13 5 rfl rfl hL
              obtain ⟨G1, v1, v2⟩ := G
              obtain rfl : v2 = u5 := q5 e13
              refine StepU.go rfl (fun K hK => ?_)
              go_simp
              rw [if_neg (by omega), HT0.out]
              exact hK (G1, v1, _) _ ⟨q1, q2, q3, q4, q5, q6⟩
            refine StepsU.cons rfl (fun G L w' hL hr hc hF => ?_) ?_
            · obtain ⟨q1, q2, q3, q4, q5, q6⟩ := hF
              have e13 := hc.not 13 6 rfl rfl hL
              obtain ⟨G1, v1, v2⟩ := G
              obtain rfl : v2 = u5 := q5 e13
              refine StepU.go rfl (fun K hK => ?_)
              go_simp
              exact hK (G1, v1, _) _ ⟨q1, q2, q3, q4, q5, q6⟩
            refine StepsU.cons rfl (fun G L w' hL hr hc hF => ?_) ?_
            · obtain ⟨q1, q2, q3, q4, q5, q6⟩ := hF
              have e13 := hc.not 13 7 rfl rfl hL
              obtain ⟨G1, v1, v2⟩ := G
              obtain rfl : v2 = u5 := q5 e13
              refine StepU.go rfl (fun K hK => ?_)
              go_simp
              exact hK (G1, v1, _) _ ⟨q1, q2, q3, q4, q5, q6⟩
            refine StepsU.cons rfl (fun G L w' hL hr hc hF => ?_) ?_
            · obtain ⟨q1, q2, q3, q4, q5, q6⟩ := hF
              have e13 := hc.not 13 8 rfl rfl hL
              obtain ⟨G1, v1, v2⟩ := G
              obtain rfl : v2 = u5 := q5 e13
              refine StepU.go rfl (fun K hK => ?_)
              go_simp
              exact hK (G1, v1, _) _ ⟨q1, q2, q3, q4, q5, q6⟩
            refine StepsU.cons rfl (fun G L w' hL hr hc hF => ?_) ?_
            · obtain ⟨q1, q2, q3, q4, q5, q6⟩ := hF
              have e13 := hc.not 13 9 rfl rfl hL
              obtain ⟨G1, v1, v2⟩ := G
              obtain rfl : v2 = u5 := q5 e13
              have c9 := cell_keep hcl0 q1
              refine StepU.go rfl (fun K hK => ?_)
              go_simp
              exact hK (G1, v1, _) _ ⟨q1, q2, q3, q4, q5, q6⟩
            refine StepsU.cons rfl (fun G L w' hL hr hc hF => ?_) ?_
            · obtain ⟨q1, q2, q3, q4, q5, q6⟩ := hF
              have e13 := hc.not 13 10 rfl rfl hL
              obtain ⟨G1, v1, v2⟩ := G
              obtain rfl : v2 = u5 := q5 e13
              refine StepU.go rfl (fun K hK => ?_)
              go_simp
              rw [if_neg (by omega), HT1.out]
              exact hK (G1, v1, _) _ ⟨q1, q2, q3, q4, q5, q6⟩
            refine StepsU.cons rfl (fun G L w' hL hr hc hF => ?_) ?_
            · obtain ⟨q1, q2, q3, q4, q5, q6⟩ := hF
              have e13 := hc.not 13 11 rfl rfl hL
              obtain ⟨G1, v1, v2⟩ := G
              obtain rfl : v2 = u5 := q5 e13
              have e := hc.not 12 11 rfl rfl hL
              refine StepU.go rfl (fun K hK => ?_)
              go_simp
              exact hK (w'.heap.size, v1, _) _ ⟨Keeps.alloc q1 _, fun _ _ => At.new _ _ _, fun h => own_later (q3 h) (Keeps.alloc (Below.refl _ _) _), fun h => (by have h' : L 12 = true := h; rw [e] at h'; cases h'), q5, q6⟩
            refine StepsU.cons rfl (fun G L w' hL hr hc hF => ?_) ?_
            · obtain ⟨q1, q2, q3, q4, q5, q6⟩ := hF
              have e13 := hc.not 13 12 rfl rfl hL
              obtain ⟨G1, v1, v2⟩ := G
              obtain rfl : v2 = u5 := q5 e13
              have h12 := q2 (hr 11 rfl) hL
              have ho := q3 hL
              have hsw := q1.size
              refine StepU.go rfl (fun K hK => ?_)
              refine wp_append_lies w' (.tmp 19) (.tmp 30) 87 rfl w3.heap.size 9 i0 (.string ByteArray.empty) 1 16 Try.underlying87 hi hz0 hz1 hz2 rfl (by decide) v2 (2 * q) xs rfl ho ⟨G1, 0, none⟩ 2 2 [.string T0, .string T1] rfl rfl (World.news_of_block h12) (by simp [Value.oneCell']) (by decide) B1 B2 (by omega) w'.heap.size rfl ?_
              intro g5 cap5 w5 hown5 hgrow5 hl5 _
              refine hK (G1, .slice (some ⟨g5, 0, none⟩) (2 * q + 2) cap5, _) _ ?_
              exact ⟨q1.grown hgrow5 hsw (fun k9 e => hbs k9 e), fun _ h => (by rw [add_same] at h; cases h), fun h => (by rw [add_same] at h; cases h), fun _ => hown5, q5, fun h => (by have h' : L 13 = true := h; rw [e13] at h'; cases h')⟩
            refine StepsU.cons rfl (fun G L w' hL hr hc hF => ?_) ?_
            · obtain ⟨q1, q2, q3, q4, q5, q6⟩ := hF
              obtain ⟨G1, v1, v2⟩ := G
              refine StepU.go rfl (fun K hK => ?_)
              go_simp
              exact hK (G1, v1, v1) _ ⟨q1, q2, q3, q4, fun h => (by rw [add_same] at h; cases h), fun _ => rfl⟩
            exact StepsU.nil (by simp)
          case fina =>
          intro G L w4 hall hF
          obtain ⟨k4, _, _, o4, _, u4⟩ := hF
          have u4 := u4 (hall 13 (by simp))
          have hown4 := o4 (hall 12 (by simp))
          clear hall o4
          obtain ⟨G1, v', v2⟩ := G
          simp only at hown4 u4
          subst u4
          go_wp2_with fail
          go_roundw
          case rel => exact ⟨q + 1, by omega, by go_num, by rw [Hat.out, List.map_append, Hxs.out, show 2 * (q + 1) = 2 * q + 2 by omega]; exact hown4, k4⟩
          case measure => simp [intOf]; omega
        · obtain rfl : q = N := by omega
          have h2 : 2 * q = (sdl (k + 1)).length := by rw [sdl_length, Nat.pow_succ, HN.out]; omega
          rw [h2, List.take_length] at hown
          have hrow := own_strs hown (by have := HN4.out; rw [← h2]; unfold maxLen; omega)
          clear hown h2
          go_wp2_with fail
          go_roundw
          case rel => exact ⟨k + 1, by omega, by go_num, hrow, hb.next hb3⟩
          case measure => simp [intOf]; omega
    · obtain rfl : k = n := by omega
      go_wp2_with fail
      go_ret
      exact ⟨_, rfl, hrd, hb⟩
end Go.Proofs.Ytngonghgkeobhaa
