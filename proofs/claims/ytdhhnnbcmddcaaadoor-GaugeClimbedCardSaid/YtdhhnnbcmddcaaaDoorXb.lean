/- The walk of the reference's Rung. -/
import Derived.Test.YtdhhnnbcmddcaaaDoorXa
import Derived.Test.YtdhhnnbcmddcaaaDoorUa
import Derived.StillTailTactics
namespace Go.Proofs.YtdhhnnbcmddcaaaDoor
open Go.RowKit
set_option linter.unusedVariables false
set_option linter.unusedSimpArgs false

theorem infoI : (Tryd.prog.info? 3).map (fun i => (i.zero, i.size, i.bytes)) = some (some (.int .i64 0), 1, 8) := by kernel_rfl
theorem rgS_yes (s : Int × (Int × Int)) (e : Int) (h : posP e ≤ s.1) : rgS s e = (s.1 - posP e, (s.2.1 + (pw e).1, s.2.2 + (pw e).2)) := by unfold rgS; rw [if_pos h]
theorem rgS_no (s : Int × (Int × Int)) (e : Int) (h : ¬ posP e ≤ s.1) : rgS s e = s := by unfold rgS; rw [if_neg h]
set_option maxHeartbeats 4000000 in
set_option maxRecDepth 100000 in
theorem refRung_c (k : Int) (h0 : 0 ≤ k) (h1 : k ≤ 5000000) (w : World) :
    Calls Tryd.prog 31 #[.int .i64 k] w fun e w' => e = .returned (.agg (gv (rungG k))) ∧ Keeps w w' := by
  obtain ⟨i0, hi, hz0, hz1, hz2⟩ := info_parts infoI
  obtain ⟨W0, hW0⟩ : ∃ W0, w.alloc (.cells #[.int .i64 0, .int .i64 0] 23) = W0 := ⟨_, rfl⟩
  have r0 : At W0 w.heap.size 23 (gv (0, 0)) := by rw [← hW0]; exact At.new w _ _
  have k0 : Keeps w W0 := by rw [← hW0]; exact Keeps.alloc (Below.refl _ _) _
  have hs0 : W0.heap.size = w.heap.size + 1 := by rw [← hW0]; simp
  have own0 : (W0.alloc (.cells #[.int .i64 1, .int .i64 2] 3)).ownsRow (w.heap.size + 1) 3 1 (.slice (some ⟨W0.heap.size, 0, none⟩) 2 2) 2 ((wts 2).map (Value.int .i64)) := by
    rw [wts_two]; exact World.ownsRow_lit W0 #[.int .i64 1, .int .i64 2] 2 (by omega) (by unfold maxLen; omega) rfl
  rw [hs0] at own0
  have HW := Lib.hid hW0
  clear hW0
  go_enter Tryd.func31, Tryd.ntmps31
  go_upto_region 1 with fail
  rw [HW.out]
  go_wp2_with fail
  go_loopw [3, 4] (fun u _ wr => ∃ m : Nat, 2 ≤ m ∧ m ≤ 34 ∧ (2 < m → posP ((m - 2 : Nat) : Int) ≤ k) ∧ wr.ownsRow (w.heap.size + 1) 3 1 u m ((wts m).map (Value.int .i64)) ∧ At wr w.heap.size 23 (gv (0, 0)) ∧ Keeps w wr) (fun u _ _ => 40 - slen u)
  case atStart => exact ⟨2, by omega, by omega, fun h => by omega, own0, r0.alloc _, Keeps.alloc k0 _⟩
  case round =>
    obtain ⟨m, hm2, hm30, hlast, hown, r1, hb⟩ := hrel
    obtain ⟨g, cap, rfl, hg0, hg1, hc, hcm, hcell⟩ := own_form hown (by omega)
    obtain ⟨a, ha⟩ : ∃ a, m = a + 1 := ⟨m - 1, by omega⟩
    obtain ⟨b, hb2⟩ : ∃ b, m = b + 2 := ⟨m - 2, by omega⟩
    have q1 : IntKind.i64.wrap ((m : Int) - 1) = (a : Int) := by rw [IntWalk.i64_in _ (by omega)]; omega
    have q2 : IntKind.i64.wrap ((m : Int) - 2) = (b : Int) := by rw [IntWalk.i64_in _ (by omega)]; omega
    have hA : (a : Int) < (m : Int) := by omega
    have hB : (b : Int) < (m : Int) := by omega
    have c1 : wr.cell? ⟨g, a, none⟩ = some (.int .i64 (posP (a : Int))) := hcell a _ (by rw [List.getElem?_map, show (wts m)[a]? = some (posP (a : Int)) by simp [wts, show a < m by omega]]; rfl)
    have c2 : wr.cell? ⟨g, b, none⟩ = some (.int .i64 (posP (b : Int))) := hcell b _ (by rw [List.getElem?_map, show (wts m)[b]? = some (posP (b : Int)) by simp [wts, show b < m by omega]]; rfl)
    by_cases hk : posP (a : Int) ≤ k
    · have hm25 : m ≤ 32 := by
        rcases Nat.lt_or_ge 31 a with h | h
        · have := posP_mono 32 a h (by omega)
          have := posP_32
          omega
        · omega
      have hS : posP (a : Int) + posP (b : Int) = posP (m : Int) := by
        have := posP_rec b (by omega)
        rw [show (b : Int) + 2 = (m : Int) by omega, show (b : Int) + 1 = (a : Int) by omega] at this
        omega
      have t1 := posP_top a (by omega)
      have t2 := posP_top b (by omega)
      have t3 := posP_pos a (by omega)
      have t4 := posP_pos b (by omega)
      have q3 : IntKind.i64.wrap (posP (a : Int) + posP (b : Int)) = posP (m : Int) := by rw [IntWalk.i64_in _ (by omega), hS]
      have hl2 : posP ((m + 1 - 2 : Nat) : Int) ≤ k := by rw [show m + 1 - 2 = a by omega]; exact hk
      have Hsu := Lib.hid (wts_succ m)
      have HL := Lib.hid hl2
      have B1 : m + 1 ≤ maxLen := by unfold maxLen; omega
      have hwr := hb.size
      have hkI : decide (posP (a : Int) ≤ k) = true := by simpa using hk
      have la : ((wts m).map (Value.int .i64))[a]? = some (.int .i64 (posP (a : Int))) := by rw [List.getElem?_map, show (wts m)[a]? = some (posP (a : Int)) by simp [wts, show a < m by omega]]; rfl
      have lb : ((wts m).map (Value.int .i64))[b]? = some (.int .i64 (posP (b : Int))) := by rw [List.getElem?_map, show (wts m)[b]? = some (posP (b : Int)) by simp [wts, show b < m by omega]]; rfl
      clear hS t1 t2 t3 t4 hlast hk hl2 ha hb2
      generalize posP (a : Int) = pa at *
      generalize posP (b : Int) = pb at *
      generalize posP (m : Int) = pm at *
      go_upto_region 4 with fail
      have hsb := hb.size
      refine region_any_early [3] (G := Nat × Value × Value) (f := ?fa) (fun G => [.slice (some ⟨g, 0, none⟩) m cap, .slice (some ⟨g, 0, none⟩) m cap, .int .i64 m, .int .i64 a, .pointer (some ⟨g, a, none⟩), .int .i64 pa, .slice (some ⟨g, 0, none⟩) m cap, .int .i64 m, .int .i64 b, .pointer (some ⟨g, b, none⟩), .int .i64 pb, .int .i64 pm, .slice (some ⟨G.1, 0, none⟩) 1 1, G.2.1, G.2.2])
        (fun G L w' => Keeps w w' ∧ At w' w.heap.size 23 (gv (0, 0)) ∧ (L 12 = true → L 13 = false → At w' G.1 3 #[.int .i64 pm]) ∧ (L 13 = false → w'.ownsRow (w.heap.size + 1) 3 1 (.slice (some ⟨g, 0, none⟩) m cap) m ((wts m).map (Value.int .i64))) ∧ (L 13 = true → w'.ownsRow (w.heap.size + 1) 3 1 G.2.1 (m + 1) ((wts m).map (Value.int .i64) ++ [.int .i64 pm])) ∧ (L 14 = false → G.2.2 = .slice (some ⟨g, 0, none⟩) m cap) ∧ (L 14 = true → G.2.2 = G.2.1))
        (0, undef, .slice (some ⟨g, 0, none⟩) m cap) (fun _ => ?hfa) (by kernel_rfl) (by kernel_rfl) ?hE ⟨Keeps.dr hb, r1.drew, fun h => (by cases h), fun _ => hown, fun h => (by cases h), fun _ => rfl, fun h => (by cases h)⟩ ?stepsa ?fina
      case hfa =>
        simp only [fill, List.toList_toArray, List.zip_cons_cons, List.zip_nil_left, List.zip_nil_right, List.foldl_cons, List.foldl_nil, Act.put, List.setIfInBounds_toArray, List.set_cons_succ, List.set_cons_zero]
        exact rfl
      case hE =>
        intro t ht
        simp only [List.mem_singleton] at ht
        subst ht
        rfl
      case stepsa =>
        refine StepsU.cons rfl (fun G L w' hL hr hc hF => ?_) ?_
        · obtain ⟨k1, r1, n1, o1, o2, u1, u2⟩ := hF
          have e14 := hc.not 14 0 rfl rfl hL
          obtain ⟨G1, v1, v2⟩ := G
          obtain rfl : v2 = .slice (some ⟨g, 0, none⟩) m cap := u1 e14
          refine StepU.go rfl (fun K hK => ?_)
          go_simp
          exact hK (G1, v1, _) _ ⟨k1, r1, n1, o1, o2, u1, u2⟩
        refine StepsU.cons rfl (fun G L w' hL hr hc hF => ?_) ?_
        · obtain ⟨k1, r1, n1, o1, o2, u1, u2⟩ := hF
          have e14 := hc.not 14 1 rfl rfl hL
          obtain ⟨G1, v1, v2⟩ := G
          obtain rfl : v2 = .slice (some ⟨g, 0, none⟩) m cap := u1 e14
          refine StepU.go rfl (fun K hK => ?_)
          go_simp
          exact hK (G1, v1, _) _ ⟨k1, r1, n1, o1, o2, u1, u2⟩
        refine StepsU.cons rfl (fun G L w' hL hr hc hF => ?_) ?_
        · obtain ⟨k1, r1, n1, o1, o2, u1, u2⟩ := hF
          have e14 := hc.not 14 2 rfl rfl hL
          obtain ⟨G1, v1, v2⟩ := G
          obtain rfl : v2 = .slice (some ⟨g, 0, none⟩) m cap := u1 e14
          refine StepU.go rfl (fun K hK => ?_)
          go_simp
          exact hK (G1, v1, _) _ ⟨k1, r1, n1, o1, o2, u1, u2⟩
        refine StepsU.cons rfl (fun G L w' hL hr hc hF => ?_) ?_
        · obtain ⟨k1, r1, n1, o1, o2, u1, u2⟩ := hF
          have e14 := hc.not 14 3 rfl rfl hL
          obtain ⟨G1, v1, v2⟩ := G
          obtain rfl : v2 = .slice (some ⟨g, 0, none⟩) m cap := u1 e14
          refine StepU.go rfl (fun K hK => ?_)
          go_simp
          exact hK (G1, v1, _) _ ⟨k1, r1, n1, o1, o2, u1, u2⟩
        refine StepsU.cons rfl (fun G L w' hL hr hc hF => ?_) ?_
        · obtain ⟨k1, r1, n1, o1, o2, u1, u2⟩ := hF
          have e14 := hc.not 14 4 rfl rfl hL
          obtain ⟨G1, v1, v2⟩ := G
          obtain rfl : v2 = .slice (some ⟨g, 0, none⟩) m cap := u1 e14
          refine StepU.go rfl (fun K hK => ?_)
          go_simp
          exact hK (G1, v1, _) _ ⟨k1, r1, n1, o1, o2, u1, u2⟩
        refine StepsU.cons rfl (fun G L w' hL hr hc hF => ?_) ?_
        · obtain ⟨k1, r1, n1, o1, o2, u1, u2⟩ := hF
          have e14 := hc.not 14 5 rfl rfl hL
          obtain ⟨G1, v1, v2⟩ := G
          obtain rfl : v2 = .slice (some ⟨g, 0, none⟩) m cap := u1 e14
          have e := hc.not 13 12 rfl rfl (hc.not 12 11 rfl rfl (hc.not 11 5 rfl rfl hL))
          have c9 : w'.cell? ⟨g, a, none⟩ = some (.int .i64 pa) := by rw [World.ownsRow.cellAt (o1 e) a (by omega)]; exact la
          refine StepU.go rfl (fun K hK => ?_)
          go_simp
          exact hK (G1, v1, _) _ ⟨k1, r1, n1, o1, o2, u1, u2⟩
        refine StepsU.cons rfl (fun G L w' hL hr hc hF => ?_) ?_
        · obtain ⟨k1, r1, n1, o1, o2, u1, u2⟩ := hF
          have e14 := hc.not 14 6 rfl rfl hL
          obtain ⟨G1, v1, v2⟩ := G
          obtain rfl : v2 = .slice (some ⟨g, 0, none⟩) m cap := u1 e14
          refine StepU.go rfl (fun K hK => ?_)
          go_simp
          exact hK (G1, v1, _) _ ⟨k1, r1, n1, o1, o2, u1, u2⟩
        refine StepsU.cons rfl (fun G L w' hL hr hc hF => ?_) ?_
        · obtain ⟨k1, r1, n1, o1, o2, u1, u2⟩ := hF
          have e14 := hc.not 14 7 rfl rfl hL
          obtain ⟨G1, v1, v2⟩ := G
          obtain rfl : v2 = .slice (some ⟨g, 0, none⟩) m cap := u1 e14
          refine StepU.go rfl (fun K hK => ?_)
          go_simp
          exact hK (G1, v1, _) _ ⟨k1, r1, n1, o1, o2, u1, u2⟩
        refine StepsU.cons rfl (fun G L w' hL hr hc hF => ?_) ?_
        · obtain ⟨k1, r1, n1, o1, o2, u1, u2⟩ := hF
          have e14 := hc.not 14 8 rfl rfl hL
          obtain ⟨G1, v1, v2⟩ := G
          obtain rfl : v2 = .slice (some ⟨g, 0, none⟩) m cap := u1 e14
          refine StepU.go rfl (fun K hK => ?_)
          go_simp
          exact hK (G1, v1, _) _ ⟨k1, r1, n1, o1, o2, u1, u2⟩
        refine StepsU.cons rfl (fun G L w' hL hr hc hF => ?_) ?_
        · obtain ⟨k1, r1, n1, o1, o2, u1, u2⟩ := hF
          have e14 := hc.not 14 9 rfl rfl hL
          obtain ⟨G1, v1, v2⟩ := G
          obtain rfl : v2 = .slice (some ⟨g, 0, none⟩) m cap := u1 e14
          refine StepU.go rfl (fun K hK => ?_)
          go_simp
          exact hK (G1, v1, _) _ ⟨k1, r1, n1, o1, o2, u1, u2⟩
        refine StepsU.cons rfl (fun G L w' hL hr hc hF => ?_) ?_
        · obtain ⟨k1, r1, n1, o1, o2, u1, u2⟩ := hF
          have e14 := hc.not 14 10 rfl rfl hL
          obtain ⟨G1, v1, v2⟩ := G
          obtain rfl : v2 = .slice (some ⟨g, 0, none⟩) m cap := u1 e14
          have e := hc.not 13 12 rfl rfl (hc.not 12 11 rfl rfl (hc.not 11 10 rfl rfl hL))
          have c9 : w'.cell? ⟨g, b, none⟩ = some (.int .i64 pb) := by rw [World.ownsRow.cellAt (o1 e) b (by omega)]; exact lb
          refine StepU.go rfl (fun K hK => ?_)
          go_simp
          exact hK (G1, v1, _) _ ⟨k1, r1, n1, o1, o2, u1, u2⟩
        refine StepsU.cons rfl (fun G L w' hL hr hc hF => ?_) ?_
        · obtain ⟨k1, r1, n1, o1, o2, u1, u2⟩ := hF
          have e14 := hc.not 14 11 rfl rfl hL
          obtain ⟨G1, v1, v2⟩ := G
          obtain rfl : v2 = .slice (some ⟨g, 0, none⟩) m cap := u1 e14
          refine StepU.go rfl (fun K hK => ?_)
          go_simp
          exact hK (G1, v1, _) _ ⟨k1, r1, n1, o1, o2, u1, u2⟩
        refine StepsU.cons rfl (fun G L w' hL hr hc hF => ?_) ?_
        · obtain ⟨k1, r1, n1, o1, o2, u1, u2⟩ := hF
          have e14 := hc.not 14 12 rfl rfl hL
          obtain ⟨G1, v1, v2⟩ := G
          obtain rfl : v2 = .slice (some ⟨g, 0, none⟩) m cap := u1 e14
          have e := hc.not 13 12 rfl rfl hL
          refine StepU.go rfl (fun K hK => ?_)
          go_simp
          exact hK (w'.heap.size, v1, _) _ ⟨Keeps.alloc k1 _, r1.alloc _, fun _ _ => At.new _ _ _, fun h => (o1 h).alloc _, fun h => (by have h' : L 13 = true := h; rw [e] at h'; cases h'), u1, u2⟩
        refine StepsU.cons rfl (fun G L w' hL hr hc hF => ?_) ?_
        · obtain ⟨k1, r1, n1, o1, o2, u1, u2⟩ := hF
          have e14 := hc.not 14 13 rfl rfl hL
          obtain ⟨G1, v1, v2⟩ := G
          obtain rfl : v2 = .slice (some ⟨g, 0, none⟩) m cap := u1 e14
          have h12 := n1 (hr 12 rfl) hL
          have ho := o1 hL
          have hsw := k1.size
          have hlt9 := r1.lt
          refine StepU.go rfl (fun K hK => ?_)
          refine wp_append_lies w' (.tmp 18) (.tmp 30) 67 rfl (w.heap.size + 1) 3 i0 (.int .i64 0) 1 8 Tryd.underlying67 hi hz0 hz1 hz2 rfl (by decide) (.slice (some ⟨g, 0, none⟩) m cap) m ((wts m).map (Value.int .i64)) rfl ho ⟨G1, 0, none⟩ 1 1 [.int .i64 pm] rfl rfl (World.news_of_block h12) (by simp [Value.oneCell']) (by decide) B1 (by omega) (by omega) w'.heap.size rfl ?_
          intro g5 cap5 w5 hown5 hgrow5 _ _
          have r5 := r1.grown hgrow5 (own_ne ho r1 (by decide))
          refine hK (G1, .slice (some ⟨g5, 0, none⟩) (m + 1) cap5, _) _ ?_
          exact ⟨k1.grown hgrow5 hsw (fun k9 e => by have e9 : g = k9 := Option.some.inj e; omega), r5, fun _ h => (by rw [add_same] at h; cases h), fun h => (by rw [add_same] at h; cases h), fun _ => hown5, u1, fun h => (by have h' : L 14 = true := h; rw [e14] at h'; cases h')⟩
        refine StepsU.cons rfl (fun G L w' hL hr hc hF => ?_) ?_
        · obtain ⟨k1, r1, n1, o1, o2, u1, u2⟩ := hF
          obtain ⟨G1, v1, v2⟩ := G
          refine StepU.go rfl (fun K hK => ?_)
          go_simp
          exact hK (G1, v1, v1) _ ⟨k1, r1, n1, o1, o2, fun h => (by rw [add_same] at h; cases h), fun _ => rfl⟩
        exact StepsU.nil (by simp)
      case fina =>
      intro G L w4 hall hF
      obtain ⟨k4, r4, _, _, o4, _, u4⟩ := hF
      have u4 := u4 (hall 14 (by simp))
      have hown4 := o4 (hall 13 (by simp))
      clear hall o4
      obtain ⟨G1, v', v2⟩ := G
      simp only at hown4 u4
      subst u4
      go_wp2_with fail
      go_roundw
      case rel => exact ⟨m + 1, by omega, by omega, fun _ => HL.out, by rw [Hsu.out]; simpa using hown4, r4, k4⟩
      case measure =>
        obtain ⟨g', cap', rfl, _⟩ := own_form hown4 (by omega)
        simp [slen]; omega
    · have hskip : rgJ k (40 - m) = (k, (0, 0)) := rgJ_skip k m (by omega) (fun e he h40 => by have := posP_mono a e (by omega) h40; omega) (40 - m) (Nat.le_refl _)
      have Hskip := Lib.hid hskip
      have d1 : decide (posP (a : Int) ≤ k) = false := by simpa using hk
      have hai : (a : Int) = (m : Int) - 1 := by omega
      have Hai := Lib.hid hai
      have hgN : g ≠ wr.heap.size := by omega
      have hgW : g ≠ w.heap.size := by omega
      have hk2 := hb
      generalize wr = w2 at *
      have s1 := At.new w2 23 (gv (0, 0))
      have hsz := hk2.size
      clear hskip hai hk ha hb2 hlast c2 hB q2 hb hcell
      generalize posP (a : Int) = pa at *
      go_wp2_with (refine wpList_store_row rfl 23 _ _ rfl (w2.heap.size) (gv (0, 0)) rfl rfl 23 (gv (0, 0)) s1 (sizeV _) rfl (oneV _) ?_)
      have s2 := s1.row (gv (0, 0))
      have dd := below_row (Keeps.alloc (Below.refl _ _) (.cells (gv (0, 0)) 23)) (Nat.le_refl w2.heap.size) (gv (0, 0))
      have own2 := own_later hown dd
      have r2 := r1.later dd
      have k2 := Keeps.next hk2 dd
      have Hm := Lib.hid hm30
      clear s1 hown r1 hk2 c1 q1 d1 dd hm2 hm30 hA
      go_loopw [0, 6] (fun kk i w5 => ∃ n : Nat, n ≤ m ∧ i = .int .i64 ((n : Int) - 1) ∧ kk = .int .i64 (rgJ k (40 - n)).1 ∧ w5.ownsRow (w.heap.size + 1) 3 1 (.slice (some ⟨g, 0, none⟩) m cap) m ((wts m).map (Value.int .i64)) ∧
          At w5 w2.heap.size 23 (gv (rgJ k (40 - n)).2) ∧ At w5 w.heap.size 23 (gv (0, 0)) ∧ Keeps w w5) (fun _ i _ => (intOf i + 1).toNat)
      case atStart => exact ⟨m, Nat.le_refl _, by rw [Hai.out], by rw [Hskip.out], own2, by rw [Hskip.out]; exact s2, r2, k2⟩
      case round =>
        obtain ⟨n, hn, rfl, rfl, own5, s5, r5, hb5⟩ := hrel
        clear own2 s2 r2 k2 Hskip Hai
        generalize wr = w5 at *
        cases n with
        | zero =>
          have e40 : rgJ k (40 - 0) = rgJ k 40 := rfl
          rw [e40] at s5
          go_wp2_with (first
            | (refine load_row_w rfl 23 _ rfl _ rfl 23 _ _ _ s5 Tryd.underlying23 rfl (sizeV _) ?_)
            | (refine wpList_store_row rfl 23 _ _ rfl (w.heap.size) (gv (rgJ k 40).2) rfl rfl 23 (gv (0, 0)) r5 (sizeV _) rfl (oneV _) ?_))
          exact bodyPost_ret (results_cell_row Tryd.results31 _ _ w.heap.size _ _ _ _ rfl (r5.row (gv (rgJ k 40).2)) Tryd.underlying23 rfl (sizeV _)) rfl ⟨rfl, below_row hb5 (Nat.le_refl _) _⟩
        | succ n =>
          have hm30 := Hm.out
          have hi1 : ((n + 1 : Nat) : Int) - 1 = (n : Int) := by omega
          rw [hi1]
          have hnI : (n : Int) < (m : Int) := by omega
          have c3 : w5.cell? ⟨g, n, none⟩ = some (.int .i64 (posP (n : Int))) := by
            rw [World.ownsRow.cellAt own5 n (by omega), List.getElem?_map, show (wts m)[n]? = some (posP (n : Int)) by simp [wts, show n < m by omega]]; rfl
          have hst : rgJ k (40 - n) = rgS (rgJ k (40 - (n + 1))) (n : Int) := by
            have := rgJ_succ k (40 - (n + 1)) (by omega)
            rw [show 40 - (n + 1) + 1 = 40 - n by omega, show (39 : Int) - ((40 - (n + 1) : Nat) : Int) = (n : Int) by omega] at this
            exact this
          have hin := rgJ_in k h0 (40 - (n + 1)) (by omega)
          have hpp := posP_pos n (by omega)
          have hpt := posP_top n (by omega)
          have hps := pw_sm (n : Int) (by omega) (by omega)
          have q5 : IntKind.i64.wrap ((n : Int) - 1) = (n : Int) - 1 := IntWalk.i64_in _ (by omega)
          have HST := Lib.hid hst
          have hn0 : decide (0 ≤ (n : Int)) = true := by simp
          have Hn := Lib.hid hn
          generalize rgJ k (40 - (n + 1)) = s at *
          clear hst hi1 hn hm30
          by_cases hp : posP (n : Int) ≤ s.1
          · have hyes := rgS_yes s n hp
            have d2 : decide (posP (n : Int) ≤ s.1) = true := by simpa using hp
            have q6 : IntKind.i64.wrap (s.1 - posP (n : Int)) = s.1 - posP (n : Int) := IntWalk.i64_in _ (by omega)
            have pw1 := fun z => refPower_c (n : Int) (by omega) (by have := Hm.out; have := Hn.out; omega) z
            have ss : sm2 1000000000000 s.2 := by unfold sm2 sm; unfold sm at hin; omega
            have sp : sm2 1000000000000 (pw (n : Int)) := by unfold sm2 sm; unfold sm at hps; omega
            have pl := fun z => refPlus_v s.2 (pw (n : Int)) ss sp z
            have HY := Lib.hid hyes
            clear hyes hp hin hpp hpt hps ss sp
            generalize posP (n : Int) = pn at *
            generalize pw (n : Int) = pv at *
            go_upto_region 11 with fail
            refine region_any_inv (G := Unit) (f := ?f) (fun _ => [.agg (gv s.2), .int .i64 n, .agg (gv pv), .agg #[.int .i64 (s.2.1 + pv.1), .int .i64 (s.2.2 + pv.2)], undef])
              (fun _ L w' => Keeps w w' ∧ w'.ownsRow (w.heap.size + 1) 3 1 (.slice (some ⟨g, 0, none⟩) m cap) m ((wts m).map (Value.int .i64)) ∧ At w' w2.heap.size 23 (gv (if L 4 = true then (s.2.1 + pv.1, s.2.2 + pv.2) else s.2)) ∧ At w' w.heap.size 23 (gv (0, 0)))
              () (fun _ => ?hf) (by kernel_rfl) (by kernel_rfl) ⟨Keeps.dr hb5, own5, s5.drew, r5.drew⟩ ?steps ?fin
            case hf =>
              simp only [fill, List.toList_toArray, List.zip_cons_cons, List.zip_nil_left, List.zip_nil_right, List.foldl_cons, List.foldl_nil, Act.put, List.setIfInBounds_toArray, List.set_cons_succ, List.set_cons_zero]
              exact rfl
            case steps =>
              have nW : w.heap.size ≠ w2.heap.size := by omega
              refine StepsU.cons rfl (fun u L w' hL hr hc hF => ?_) ?_
              · have e := hc.not 4 0 rfl rfl hL
                obtain ⟨k1, o1, s1, r1⟩ := hF
                have h1 := s1
                rw [e, if_neg (by simp)] at h1
                obtain ⟨p1, p2, p3, p4⟩ := row_four h1
                refine StepU.go rfl (fun K hK => ?_)
                go_simp
                exact hK () _ ⟨k1, o1, s1, r1⟩
              refine StepsU.cons rfl (fun u L w' hL hr hc hF => ?_) ?_
              · refine StepU.go rfl (fun K hK => ?_)
                go_simp
                exact hK () _ hF
              refine StepsU.cons rfl (fun u L w' hL hr hc hF => ?_) ?_
              · obtain ⟨k1, o1, s1, r1⟩ := hF
                refine StepU.go rfl (fun K hK => ?_)
                go_simp
                refine (pw1 _).mono ?_
                rintro e w6 ⟨rfl, b6⟩
                exact hK () _ ⟨Keeps.next k1 b6, own_later o1 b6, s1.later b6, r1.later b6⟩
              refine StepsU.cons rfl (fun u L w' hL hr hc hF => ?_) ?_
              · obtain ⟨k1, o1, s1, r1⟩ := hF
                refine StepU.go rfl (fun K hK => ?_)
                go_simp
                refine (pl _).mono ?_
                rintro e w6 ⟨rfl, b6⟩
                exact hK () _ ⟨Keeps.next k1 b6, own_later o1 b6, s1.later b6, r1.later b6⟩
              refine StepsU.cons rfl (fun u L w' hL hr hc hF => ?_) ?_
              · obtain ⟨k1, o1, s1, r1⟩ := hF
                have h1 := s1
                rw [hL, if_neg (by simp)] at h1
                obtain ⟨p1, p2, p3, p4⟩ := row_four h1
                refine StepU.go rfl (fun K hK => ?_)
                go_simp
                refine hK () _ ?_
                have hne : some w2.heap.size ≠ (Value.slice (some ⟨g, 0, none⟩) m cap).ownBlock := fun e => hgN (Option.some.inj e).symm
                exact ⟨Keeps.set (Keeps.set k1 _ hsz _ _) _ hsz _ _, own_set (own_set o1 hne) hne, by rw [if_pos (add_same L _)]; exact (h1.set 0 _).set 1 _, (r1.far nW _).far nW _⟩
              exact StepsU.nil (by simp)
            case fin =>
            intro u L w7 hall hF
            obtain ⟨k7, o7, s7, r7⟩ := hF
            rw [hall 4 (by simp), if_pos rfl] at s7
            clear hall pw1 pl
            go_wp2_with fail
            go_roundw
            case rel => exact ⟨n, by have := Hn.out; omega, rfl, by rw [HST.out, HY.out], o7, by rw [HST.out, HY.out]; exact s7, r7, k7⟩
            case measure => first | (simp [intOf]; done) | (simp [intOf]; omega)
          · have hno := rgS_no s n hp
            have d2 : decide (posP (n : Int) ≤ s.1) = false := by simpa using hp
            have HY := Lib.hid hno
            clear hno hp hin hpp hpt hps
            generalize posP (n : Int) = pn at *
            go_wp2_with fail
            go_roundw
            case rel => exact ⟨n, by have := Hn.out; omega, rfl, by rw [HST.out, HY.out], own5, by rw [HST.out, HY.out]; exact s5, r5, hb5⟩
            case measure => first | (simp [intOf]; done) | (simp [intOf]; omega)
end Go.Proofs.YtdhhnnbcmddcaaaDoor
