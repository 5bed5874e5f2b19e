/- The law of Tree. -/
import Derived.Test.YteffkcnlipdgaaaDoorWc
import Derived.Test.YteffkcnlipdgaaaDoorMd
import Derived.Test.YteffkcnlipdgaaaDoorWh
import Derived.Test.YteffkcnlipdgaaaDoorVi
namespace Go.Proofs.YteffkcnlipdgaaaDoor
open Go.RowKit
set_option linter.unusedVariables false
set_option linter.unusedSimpArgs false

theorem eqt_self (a b c : Int) (w : World) : (Op.equalIn 10000 22 (.agg #[.int .i64 a, .int .i64 b, .int .i64 c]) (.agg #[.int .i64 a, .int .i64 b, .int .i64 c])).run Tryd.prog w = .ok true w := by
  have := eq3_arr a b c a b c w
  rw [show eq3 a b c a b c = true by simp [eq3]] at this
  exact this
theorem get_list (Y : ByteArray) (k : Nat) (b : UInt8) (h : Y.data.toList[k]? = some b) : ∃ hlt : k < Y.size, (((Y[k]'hlt).toNat : Nat) : Int) = ((b.toNat : Nat) : Int) := by
  obtain ⟨h1, h2⟩ := List.getElem?_eq_some_iff.1 h
  have hlt : k < Y.size := by rw [Array.length_toList] at h1; exact h1
  refine ⟨hlt, ?_⟩
  rw [← h2]
  rfl
/-- What a child's contracts say. -/
def ChF (e : Ed) (p : ByteArray) (n j : Nat) (c : Ed) (Y : ByteArray) : Prop :=
  (∀ W, Calls Tryd.prog 14 #[.agg #[.int .i64 c.1, .int .i64 c.2.1, .int .i64 c.2.2]] W fun r w' => r = .returned (.bool true) ∧ Keeps W w') ∧
  (∀ W, Calls Tryd.prog 21 #[.agg #[.int .i64 c.1, .int .i64 c.2.1, .int .i64 c.2.2]] W fun r w' => r = .returned (.tuple #[.agg #[.int .i64 e.1, .int .i64 e.2.1, .int .i64 e.2.2], .int .i64 0]) ∧ Keeps W w') ∧
  (∀ W, Calls Tryd.prog 19 #[.agg #[.int .i64 c.1, .int .i64 c.2.1, .int .i64 c.2.2]] W fun r w' => r = .returned (.tuple #[.string Y, .int .i64 0]) ∧ Keeps W w') ∧
  Y.size = p.size + 1 ∧ Y.extract 0 p.size = p ∧ (n = 2 → Y.data.toList[p.size]? = some (if j = 0 then 76 else 82))
theorem chF (e : Ed) (p : ByteArray) (n j : Nat) (c : Ed) (h : okCh e p.data.toList n j c = true) : ∃ Y, ChF e p n j c Y := by
  unfold okCh at h
  simp only [Bool.and_eq_true, Bool.or_eq_true, decide_eq_true_eq] at h
  obtain ⟨⟨⟨h1, h2⟩, h3, h4⟩, h5, h6⟩ := h
  refine ⟨⟨(pth c).toArray⟩, fun W => ?_, fun W => ?_, fun W => ?_, ?_, ?_, ?_⟩
  · have := refTriple_c c.1 c.2.1 c.2.2 W
    rw [h1] at this
    exact this
  · have hne : eq3 c.1 c.2.1 c.2.2 1 1 1 = false := by
      cases h : eq3 c.1 c.2.1 c.2.2 1 1 1
      · rfl
      · rw [eq3_iff] at h; omega
    have := Parent_yes c.1 c.2.1 c.2.2 h1 hne W
    rw [show upT (c.1, c.2.1, c.2.2) = e from h2] at this
    exact this
  · exact Path_yes c.1 c.2.1 c.2.2 h1 h3 W
  · show (pth c).toArray.size = p.data.size + 1
    rw [List.size_toArray, h4, Array.length_toList]
  · have : (ByteArray.extract ⟨(pth c).toArray⟩ 0 p.size).data.toList = p.data.toList := by
      rw [extract_list]
      show (pth c).take p.size = _
      rw [Array.length_toList] at h5
      exact h5
    have h9 := Array.toList_inj.1 this
    exact ByteArray.ext h9
  · intro hn
    rcases h6 with h6 | h6
    · exact absurd hn h6
    · rw [Array.length_toList] at h6
      exact h6
set_option maxHeartbeats 16000000 in
set_option maxRecDepth 20000 in
theorem law_tree (s : ByteArray) (w : World) (hs : s.size ≤ maxLen) : Calls Tryd.prog 7 #[.string s] w fun e w' => e = .returned (.bool true) ∧ Keeps w w' := by
  have cA := fun W => awake_c W
  go_enter Tryd.func7, Tryd.ntmps7
  go_upto_region 2 with (go_at_call 9; refine (tame_c s hs _).mono ?_; rintro e w1 ⟨⟨p, t, hp1, hp2, hp3, rfl⟩, h1⟩; obtain ⟨x, y, z⟩ := t; simp only)
  have hmem := fol_mem _ _ _ start_mem hp3
  have ht := List.all_eq_true.1 trisT _ hmem
  have hT := tree_fol p.data.toList (x, y, z) (by rw [Array.length_toList]; exact hp1) hp2 hp3
  unfold okTri at ht
  unfold okTree at hT
  simp only [Bool.and_eq_true, decide_eq_true_eq] at ht hT
  have htb := ht.1
  have cF := fun W => Follow_c p (by unfold pathB; rw [hp2, decide_eq_true hp1]; rfl) W
  rw [hp3] at cF
  simp only [FolR] at cF
  have cP := fun W => Path_yes x y z htb ht.2.2 W
  rw [hT.1, show (⟨p.data.toList.toArray⟩ : ByteArray) = p from rfl] at cP
  have cC := fun W => Children_yes x y z htb W
  have hTc := hT.2
  generalize chl (x, y, z) = Lc at *
  have em := eqt_self x y z
  have hX := At.new w1 22 #[.int .i64 x, .int .i64 y, .int .i64 z]
  have k1 : Keeps w (w1.alloc (.cells #[.int .i64 x, .int .i64 y, .int .i64 z] 22)) := Keeps.alloc h1 _
  generalize w1.alloc (.cells #[.int .i64 x, .int .i64 y, .int .i64 z] 22) = Z at *
  have hll : Lc.length ≤ 2 := by
    rcases Lc with _ | ⟨c, _ | ⟨d, _ | ⟨e, l⟩⟩⟩ <;> simp at hTc ⊢
  have hpsz : (p.size : Int) ≤ 60 := by omega
  clear hmem ht hT htb hp1 hp2 hp3
  go_upto_region 5 with (first
    | (go_at_call 15; refine (cF _).mono ?_; rintro e w2 ⟨rfl, h2⟩; have k2 : Keeps w (w2.alloc (.cells #[.int .i64 x, .int .i64 y, .int .i64 z] 22)) := Keeps.alloc (Keeps.next k1 h2) _; have hE2 := (hX.later h2).alloc (.cells #[.int .i64 x, .int .i64 y, .int .i64 z] 22); have hF2 := At.new w2 22 #[.int .i64 x, .int .i64 y, .int .i64 z]; have p1 := (row_six hE2).1; have p2 := (row_six hE2).2.1; have p3 := (row_six hE2).2.2.1)
    | (go_at_call 19; refine (cP _).mono ?_; rintro e w3 ⟨rfl, h3⟩; have k3 := Keeps.next k2 h3; have hE3 := hE2.later h3; have hF3 := hF2.later h3; have q1 := (row_six hE3).1; have q2 := (row_six hE3).2.1; have q3 := (row_six hE3).2.2.1)
    | (go_at_call 20; refine (cC _).mono ?_; rintro e w4 ⟨v4, rfl, ho4, h4⟩; have k4 := Keeps.next k3 h4; have hE4 := hE3.later h4; have hF4 := hF3.later h4; have hrd0 := own_edges ho4 (by unfold maxLen; omega)))
  obtain ⟨Ac, kc, hv, -, hcells⟩ := id hrd0
  subst hv
  have r1 := (row_six hE4).1; have r2 := (row_six hE4).2.1; have r3 := (row_six hE4).2.2.1
  have s1 := (row_six hF4).1; have s2 := (row_six hF4).2.1; have s3 := (row_six hF4).2.2.1
  rcases Lc with _ | ⟨c, _ | ⟨d, _ | ⟨e, l⟩⟩⟩
  · clear hTc
    clear hcells ho4
    go_wp2_with fail
    go_loopw [11] (fun s11 wr => ∃ j : Nat, j ≤ 0 ∧ s11 = .int .i64 j ∧ Keeps w wr ∧ At wr w1.heap.size 22 #[.int .i64 x, .int .i64 y, .int .i64 z] ∧ RdE wr (.slice Ac 0 kc) []) (fun s11 _ => 0 - (intOf s11).toNat)
    case atStart => exact ⟨0, by omega, rfl, k4, hE4, hrd0⟩
    case round =>
      obtain ⟨j, hj, rfl, hkr, hEr, hrd⟩ := hrel
      clear r1 r2 r3 s1 s2 s3 hE4 hF4 hrd0 k4
      have hjc : j = 0 := by omega
      obtain rfl := hjc
      go_wp2_with (go_at_call 12; refine (cA _).mono ?_; rintro e w9 ⟨rfl, h9⟩)
      go_ret
      exact ⟨rfl, Keeps.next hkr h9⟩
  · obtain ⟨c1, c2, c3⟩ := c
    obtain ⟨Yc, cTc, cPac, cPtc, yc1, yc2, -⟩ := chF (x, y, z) p 1 0 (c1, c2, c3) hTc
    clear hTc
    obtain ⟨gc, kc9, hAc, -, -, -, -, -⟩ := own_form ho4 (by simp)
    cases hAc
    simp only at cTc cPac cPtc
    have yc4 : (Yc.size : Int) = p.size + 1 := by omega
    have yc5 : (p.size : Int) < Yc.size := by omega
    have yc6 : (p.size : Int) ≤ Yc.size := by omega
    clear hcells ho4
    go_wp2_with fail
    go_loopw [11] (fun s11 wr => ∃ j : Nat, j ≤ 1 ∧ s11 = .int .i64 j ∧ Keeps w wr ∧ At wr w1.heap.size 22 #[.int .i64 x, .int .i64 y, .int .i64 z] ∧ RdE wr (.slice (some ⟨gc, 0, none⟩) 1 kc) [(c1, c2, c3)]) (fun s11 _ => 1 - (intOf s11).toNat)
    case atStart => exact ⟨0, by omega, rfl, k4, hE4, hrd0⟩
    case round =>
      obtain ⟨j, hj, rfl, hkr, hEr, hrd⟩ := hrel
      clear r1 r2 r3 s1 s2 s3 hE4 hF4 hrd0 k4
      obtain ⟨A9, c9, hA9, -, hce⟩ := id hrd
      cases hA9
      obtain ⟨bc, fc, hbc, c0, cq1, cq2⟩ := hce 0 _ rfl
      cases hbc
      simp only [Nat.zero_mul, Nat.zero_add, Nat.add_zero, Nat.one_mul, Nat.reduceAdd, Nat.reduceMul] at c0 cq1 cq2
      have hjc : j = 0 ∨ j = 1 := by omega
      rcases hjc with rfl | rfl
      · go_upto_region 10 with fail
        refine region_any_inv (G := Unit) (f := ?fr10) (fun _ => [.slice (some ⟨gc, 0, none⟩) 1 kc, .int .i64 0, .pointer (some ⟨gc, 0, none⟩), .agg #[.int .i64 c1, .int .i64 c2, .int .i64 c3], .bool true, .bool false, .bool false, .int .i64 0, .bool false, .bool false, undef, undef, undef, undef, undef, undef, undef, .bool false, .bool false])
          (fun _ _ w' => Keeps wr w') () (fun _ => ?hfr10) (by kernel_rfl) (by kernel_rfl) (below_drewN (n := 1) (Below.refl _ _)) ?stepsr10 ?finr10
        case hfr10 =>
          simp only [fill, List.toList_toArray, List.zip_cons_cons, List.zip_nil_left, List.zip_nil_right, List.foldl_cons, List.foldl_nil, Act.put, List.setIfInBounds_toArray, List.set_cons_succ, List.set_cons_zero]
          exact rfl
        case stepsr10 =>
          refine StepsU.cons rfl (fun G0 L0 w' hL hr hc hF => ?_) ?_
          · have k3 : Keeps wr w' := hF
            clear hF hc hr
            refine StepU.go rfl (fun K hK => ?_)
            go_simp
            exact hK () _ k3
          refine StepsU.cons rfl (fun G0 L0 w' hL hr hc hF => ?_) ?_
          · have k3 : Keeps wr w' := hF
            clear hF hc hr
            refine StepU.go rfl (fun K hK => ?_)
            go_simp
            exact hK () _ k3
          refine StepsU.cons rfl (fun G0 L0 w' hL hr hc hF => ?_) ?_
          · have k3 : Keeps wr w' := hF
            clear hF hc hr
            refine StepU.go rfl (fun K hK => ?_)
            go_simp
            exact hK () _ k3
          refine StepsU.cons rfl (fun G0 L0 w' hL hr hc hF => ?_) ?_
          · have k3 : Keeps wr w' := hF
            clear hF hc hr
            have cA1 := cell_keep c0 k3
            have cA2 := cell_keep cq1 k3
            have cA3 := cell_keep cq2 k3
            refine StepU.go rfl (fun K hK => ?_)
            go_simp
            exact hK () _ k3
          refine StepsU.cons rfl (fun G0 L0 w' hL hr hc hF => ?_) ?_
          · have k3 : Keeps wr w' := hF
            clear hF hc hr
            have call9 := cTc w'
            have C9 := Lib.hid call9
            clear call9
            refine StepU.go rfl (fun K hK => ?_)
            go_simp
            refine C9.out.mono ?_
            rintro e w2 ⟨rfl, b3⟩
            exact hK () _ (Keeps.next k3 b3)
          refine StepsU.cons rfl (fun G0 L0 w' hL hr hc hF => ?_) ?_
          · have k3 : Keeps wr w' := hF
            clear hF hc hr
            refine StepU.go rfl (fun K hK => ?_)
            go_simp
            exact hK () _ k3
          refine StepsU.cons rfl (fun G0 L0 w' hL hr hc hF => ?_) ?_
          · have k3 : Keeps wr w' := hF
            clear hF hc hr
            refine StepU.go rfl (fun K hK => ?_)
            go_simp
            exact hK () _ k3
          refine StepsU.cons rfl (fun G0 L0 w' hL hr hc hF => ?_) ?_
          · have k3 : Keeps wr w' := hF
            clear hF hc hr
            refine StepU.go rfl (fun K hK => ?_)
            go_simp
            exact hK () _ k3
          refine StepsU.cons rfl (fun G0 L0 w' hL hr hc hF => ?_) ?_
          · have k3 : Keeps wr w' := hF
            clear hF hc hr
            refine StepU.go rfl (fun K hK => ?_)
            go_simp
            exact hK () _ k3
          refine StepsU.cons rfl (fun G0 L0 w' hL hr hc hF => ?_) ?_
          · have k3 : Keeps wr w' := hF
            clear hF hc hr
            refine StepU.go rfl (fun K hK => ?_)
            go_simp
            exact hK () _ k3
          refine StepsU.cons rfl (fun G0 L0 w' hL hr hc hF => ?_) ?_
          · exact StepU.struck rfl ⟨(), rfl, hF⟩
          refine StepsU.cons rfl (fun G0 L0 w' hL hr hc hF => ?_) ?_
          · exact StepU.struck rfl ⟨(), rfl, hF⟩
          refine StepsU.cons rfl (fun G0 L0 w' hL hr hc hF => ?_) ?_
          · exact StepU.struck rfl ⟨(), rfl, hF⟩
          refine StepsU.cons rfl (fun G0 L0 w' hL hr hc hF => ?_) ?_
          · exact StepU.struck rfl ⟨(), rfl, hF⟩
          refine StepsU.cons rfl (fun G0 L0 w' hL hr hc hF => ?_) ?_
          · exact StepU.struck rfl ⟨(), rfl, hF⟩
          refine StepsU.cons rfl (fun G0 L0 w' hL hr hc hF => ?_) ?_
          · exact StepU.struck rfl ⟨(), rfl, hF⟩
          refine StepsU.cons rfl (fun G0 L0 w' hL hr hc hF => ?_) ?_
          · exact StepU.struck rfl ⟨(), rfl, hF⟩
          refine StepsU.cons rfl (fun G0 L0 w' hL hr hc hF => ?_) ?_
          · have k3 : Keeps wr w' := hF
            clear hF hc hr
            refine StepU.go rfl (fun K hK => ?_)
            go_simp
            exact hK () _ k3
          refine StepsU.cons rfl (fun G0 L0 w' hL hr hc hF => ?_) ?_
          · have k3 : Keeps wr w' := hF
            clear hF hc hr
            refine StepU.go rfl (fun K hK => ?_)
            go_simp
            exact hK () _ k3
          exact StepsU.nil (by simp)
        case finr10 =>
        intro G0 L0 w5 hall k5
        clear hall
        have cx := cell_keep c0 k5
        have cy := cell_keep cq1 k5
        have cz := cell_keep cq2 k5
        go_upto_region 16 with (first
          | (go_at_call 21; refine (cPac _).mono ?_; rintro e w6 ⟨rfl, h6⟩; have k6 : Keeps wr (w6.alloc (.cells #[.int .i64 x, .int .i64 y, .int .i64 z] 22)) := Keeps.alloc (Keeps.next k5 h6) _; have hP6 := At.new w6 22 #[.int .i64 x, .int .i64 y, .int .i64 z]; have c60 := cell_keep c0 k6; have c61 := cell_keep cq1 k6; have c62 := cell_keep cq2 k6)
          | (go_at_call 19; refine (cPtc _).mono ?_; rintro e w7 ⟨rfl, h7⟩; have k7 := Keeps.next k6 h7; have hP7 := hP6.later h7; have hE7 := hEr.later k7; have p1 := (row_six hP7).1; have p2 := (row_six hP7).2.1; have p3 := (row_six hP7).2.2.1; have e1 := (row_six hE7).1; have e2 := (row_six hE7).2.1; have e3 := (row_six hE7).2.2.1))
        have k7c := k7
        clear k5 k6 h6 h7
        refine region_any_inv (G := Unit) (f := ?fs10) (fun _ => [.slice (some ⟨gc, 0, none⟩) 1 kc, .int .i64 1, .bool false, .bool false, undef, undef, undef, undef, undef, undef, undef, .bool false])
          (fun _ _ w' => Keeps w7 w') () (fun _ => ?hfs10) (by kernel_rfl) (by kernel_rfl) (below_drewN (n := 1) (Below.refl _ _)) ?stepss10 ?fins10
        case hfs10 =>
          simp only [fill, List.toList_toArray, List.zip_cons_cons, List.zip_nil_left, List.zip_nil_right, List.foldl_cons, List.foldl_nil, Act.put, List.setIfInBounds_toArray, List.set_cons_succ, List.set_cons_zero]
          exact rfl
        case stepss10 =>
          refine StepsU.cons rfl (fun G0 L0 w' hL hr hc hF => ?_) ?_
          · have k3 : Keeps w7 w' := hF
            clear hF hc hr
            refine StepU.go rfl (fun K hK => ?_)
            go_simp
            exact hK () _ k3
          refine StepsU.cons rfl (fun G0 L0 w' hL hr hc hF => ?_) ?_
          · have k3 : Keeps w7 w' := hF
            clear hF hc hr
            refine StepU.go rfl (fun K hK => ?_)
            go_simp
            exact hK () _ k3
          refine StepsU.cons rfl (fun G0 L0 w' hL hr hc hF => ?_) ?_
          · have k3 : Keeps w7 w' := hF
            clear hF hc hr
            refine StepU.go rfl (fun K hK => ?_)
            go_simp
            exact hK () _ k3
          refine StepsU.cons rfl (fun G0 L0 w' hL hr hc hF => ?_) ?_
          · have k3 : Keeps w7 w' := hF
            clear hF hc hr
            refine StepU.go rfl (fun K hK => ?_)
            go_simp
            exact hK () _ k3
          refine StepsU.cons rfl (fun G0 L0 w' hL hr hc hF => ?_) ?_
          · exact StepU.struck rfl ⟨(), rfl, hF⟩
          refine StepsU.cons rfl (fun G0 L0 w' hL hr hc hF => ?_) ?_
          · exact StepU.struck rfl ⟨(), rfl, hF⟩
          refine StepsU.cons rfl (fun G0 L0 w' hL hr hc hF => ?_) ?_
          · exact StepU.struck rfl ⟨(), rfl, hF⟩
          refine StepsU.cons rfl (fun G0 L0 w' hL hr hc hF => ?_) ?_
          · exact StepU.struck rfl ⟨(), rfl, hF⟩
          refine StepsU.cons rfl (fun G0 L0 w' hL hr hc hF => ?_) ?_
          · exact StepU.struck rfl ⟨(), rfl, hF⟩
          refine StepsU.cons rfl (fun G0 L0 w' hL hr hc hF => ?_) ?_
          · exact StepU.struck rfl ⟨(), rfl, hF⟩
          refine StepsU.cons rfl (fun G0 L0 w' hL hr hc hF => ?_) ?_
          · exact StepU.struck rfl ⟨(), rfl, hF⟩
          refine StepsU.cons rfl (fun G0 L0 w' hL hr hc hF => ?_) ?_
          · have k3 : Keeps w7 w' := hF
            clear hF hc hr
            refine StepU.go rfl (fun K hK => ?_)
            go_simp
            exact hK () _ k3
          exact StepsU.nil (by simp)
        case fins10 =>
        intro G0 L0 w5 hall k5
        clear hall
        have k9 := Keeps.next k7c k5
        go_wp2_with fail
        go_roundw
        case rel => first | exact ⟨1, by omega, by go_num, Keeps.next hkr k9, hEr.later k9, hrd.below k9⟩ | exact ⟨_, _, _, _, _, _, _, _, _, _, _, _, _, _, _, _, _, _, _, _, _, _, _, _, _, _, _, _, _, _, _, _, _, _, _, _, _, _, _, _, _, _, _, _, _, _, _, _, _, _, _, _, _, _, _, _, _, _, _, _, _, _, _, _, _, _, _, _, _, _, _, _, _, _, _, _, _, _, _, _, _, _, _, _, _, _, ⟨1, by omega, by go_num, Keeps.next hkr k9, hEr.later k9, hrd.below k9⟩, rfl⟩
        case measure => simp [intOf]
      · go_wp2_with (go_at_call 12; refine (cA _).mono ?_; rintro e w9 ⟨rfl, h9⟩)
        go_ret
        exact ⟨rfl, Keeps.next hkr h9⟩
  · obtain ⟨c1, c2, c3⟩ := c
    obtain ⟨d1, d2, d3⟩ := d
    simp only [Bool.and_eq_true, decide_eq_true_eq] at hTc
    obtain ⟨Yc, cTc, cPac, cPtc, yc1, yc2, yc3⟩ := chF (x, y, z) p 2 0 (c1, c2, c3) hTc.1.1
    obtain ⟨Yd, cTd, cPad, cPtd, yd1, yd2, yd3⟩ := chF (x, y, z) p 2 1 (d1, d2, d3) hTc.1.2
    have eqn := eq3_arr c1 c2 c3 d1 d2 d3
    rw [show eq3 c1 c2 c3 d1 d2 d3 = false by (have h9 := eq3_ev (c1, c2, c3) (d1, d2, d3); rw [decide_eq_false hTc.2] at h9; exact h9)] at eqn
    clear hTc
    obtain ⟨gc, kc9, hAc, -, -, -, -, -⟩ := own_form ho4 (by simp)
    cases hAc
    simp only at cTc cPac cPtc
    have yc4 : (Yc.size : Int) = p.size + 1 := by omega
    have yc5 : (p.size : Int) < Yc.size := by omega
    have yc6 : (p.size : Int) ≤ Yc.size := by omega
    obtain ⟨yc7, yc8⟩ := get_list Yc p.size 76 (yc3 rfl)
    rw [show ((UInt8.toNat 76 : Nat) : Int) = 76 from rfl] at yc8
    have yc9 : (p.size : Int) < (p.size : Int) + 1 := by omega
    simp only at cTd cPad cPtd
    have yd4 : (Yd.size : Int) = p.size + 1 := by omega
    have yd5 : (p.size : Int) < Yd.size := by omega
    have yd6 : (p.size : Int) ≤ Yd.size := by omega
    obtain ⟨yd7, yd8⟩ := get_list Yd p.size 82 (yd3 rfl)
    rw [show ((UInt8.toNat 82 : Nat) : Int) = 82 from rfl] at yd8
    have yd9 : (p.size : Int) < (p.size : Int) + 1 := by omega
    clear hcells ho4
    go_wp2_with fail
    go_loopw [11] (fun s11 wr => ∃ j : Nat, j ≤ 2 ∧ s11 = .int .i64 j ∧ Keeps w wr ∧ At wr w1.heap.size 22 #[.int .i64 x, .int .i64 y, .int .i64 z] ∧ RdE wr (.slice (some ⟨gc, 0, none⟩) 2 kc) [(c1, c2, c3), (d1, d2, d3)]) (fun s11 _ => 2 - (intOf s11).toNat)
    case atStart => exact ⟨0, by omega, rfl, k4, hE4, hrd0⟩
    case round =>
      obtain ⟨j, hj, rfl, hkr, hEr, hrd⟩ := hrel
      clear r1 r2 r3 s1 s2 s3 hE4 hF4 hrd0 k4
      obtain ⟨A9, c9, hA9, -, hce⟩ := id hrd
      cases hA9
      obtain ⟨bc, fc, hbc, c0, cq1, cq2⟩ := hce 0 _ rfl
      cases hbc
      simp only [Nat.zero_mul, Nat.zero_add, Nat.add_zero, Nat.one_mul, Nat.reduceAdd, Nat.reduceMul] at c0 cq1 cq2
      obtain ⟨bd, fd, hbd, d0, dq1, dq2⟩ := hce 1 _ rfl
      cases hbd
      simp only [Nat.zero_mul, Nat.zero_add, Nat.add_zero, Nat.one_mul, Nat.reduceAdd, Nat.reduceMul] at d0 dq1 dq2
      have hjc : j = 0 ∨ j = 1 ∨ j = 2 := by omega
      rcases hjc with rfl | rfl | rfl
      · go_upto_region 10 with fail
        refine region_any_inv (G := Unit) (f := ?fr20) (fun _ => [.slice (some ⟨gc, 0, none⟩) 2 kc, .int .i64 0, .pointer (some ⟨gc, 0, none⟩), .agg #[.int .i64 c1, .int .i64 c2, .int .i64 c3], .bool true, .bool false, .bool false, .int .i64 0, .bool false, .bool false, undef, undef, undef, undef, undef, undef, undef, .bool false, .bool false])
          (fun _ _ w' => Keeps wr w') () (fun _ => ?hfr20) (by kernel_rfl) (by kernel_rfl) (below_drewN (n := 1) (Below.refl _ _)) ?stepsr20 ?finr20
        case hfr20 =>
          simp only [fill, List.toList_toArray, List.zip_cons_cons, List.zip_nil_left, List.zip_nil_right, List.foldl_cons, List.foldl_nil, Act.put, List.setIfInBounds_toArray, List.set_cons_succ, List.set_cons_zero]
          exact rfl
        case stepsr20 =>
          refine StepsU.cons rfl (fun G0 L0 w' hL hr hc hF => ?_) ?_
          · have k3 : Keeps wr w' := hF
            clear hF hc hr
            refine StepU.go rfl (fun K hK => ?_)
            go_simp
            exact hK () _ k3
          refine StepsU.cons rfl (fun G0 L0 w' hL hr hc hF => ?_) ?_
          · have k3 : Keeps wr w' := hF
            clear hF hc hr
            refine StepU.go rfl (fun K hK => ?_)
            go_simp
            exact hK () _ k3
          refine StepsU.cons rfl (fun G0 L0 w' hL hr hc hF => ?_) ?_
          · have k3 : Keeps wr w' := hF
            clear hF hc hr
            refine StepU.go rfl (fun K hK => ?_)
            go_simp
            exact hK () _ k3
          refine StepsU.cons rfl (fun G0 L0 w' hL hr hc hF => ?_) ?_
          · have k3 : Keeps wr w' := hF
            clear hF hc hr
            have cA1 := cell_keep c0 k3
            have cA2 := cell_keep cq1 k3
            have cA3 := cell_keep cq2 k3
            refine StepU.go rfl (fun K hK => ?_)
            go_simp
            exact hK () _ k3
          refine StepsU.cons rfl (fun G0 L0 w' hL hr hc hF => ?_) ?_
          · have k3 : Keeps wr w' := hF
            clear hF hc hr
            have call9 := cTc w'
            have C9 := Lib.hid call9
            clear call9
            refine StepU.go rfl (fun K hK => ?_)
            go_simp
            refine C9.out.mono ?_
            rintro e w2 ⟨rfl, b3⟩
            exact hK () _ (Keeps.next k3 b3)
          refine StepsU.cons rfl (fun G0 L0 w' hL hr hc hF => ?_) ?_
          · have k3 : Keeps wr w' := hF
            clear hF hc hr
            refine StepU.go rfl (fun K hK => ?_)
            go_simp
            exact hK () _ k3
          refine StepsU.cons rfl (fun G0 L0 w' hL hr hc hF => ?_) ?_
          · have k3 : Keeps wr w' := hF
            clear hF hc hr
            refine StepU.go rfl (fun K hK => ?_)
            go_simp
            exact hK () _ k3
          refine StepsU.cons rfl (fun G0 L0 w' hL hr hc hF => ?_) ?_
          · have k3 : Keeps wr w' := hF
            clear hF hc hr
            refine StepU.go rfl (fun K hK => ?_)
            go_simp
            exact hK () _ k3
          refine StepsU.cons rfl (fun G0 L0 w' hL hr hc hF => ?_) ?_
          · have k3 : Keeps wr w' := hF
            clear hF hc hr
            refine StepU.go rfl (fun K hK => ?_)
            go_simp
            exact hK () _ k3
          refine StepsU.cons rfl (fun G0 L0 w' hL hr hc hF => ?_) ?_
          · have k3 : Keeps wr w' := hF
            clear hF hc hr
            refine StepU.go rfl (fun K hK => ?_)
            go_simp
            exact hK () _ k3
          refine StepsU.cons rfl (fun G0 L0 w' hL hr hc hF => ?_) ?_
          · exact StepU.struck rfl ⟨(), rfl, hF⟩
          refine StepsU.cons rfl (fun G0 L0 w' hL hr hc hF => ?_) ?_
          · exact StepU.struck rfl ⟨(), rfl, hF⟩
          refine StepsU.cons rfl (fun G0 L0 w' hL hr hc hF => ?_) ?_
          · exact StepU.struck rfl ⟨(), rfl, hF⟩
          refine StepsU.cons rfl (fun G0 L0 w' hL hr hc hF => ?_) ?_
          · exact StepU.struck rfl ⟨(), rfl, hF⟩
          refine StepsU.cons rfl (fun G0 L0 w' hL hr hc hF => ?_) ?_
          · exact StepU.struck rfl ⟨(), rfl, hF⟩
          refine StepsU.cons rfl (fun G0 L0 w' hL hr hc hF => ?_) ?_
          · exact StepU.struck rfl ⟨(), rfl, hF⟩
          refine StepsU.cons rfl (fun G0 L0 w' hL hr hc hF => ?_) ?_
          · exact StepU.struck rfl ⟨(), rfl, hF⟩
          refine StepsU.cons rfl (fun G0 L0 w' hL hr hc hF => ?_) ?_
          · have k3 : Keeps wr w' := hF
            clear hF hc hr
            refine StepU.go rfl (fun K hK => ?_)
            go_simp
            exact hK () _ k3
          refine StepsU.cons rfl (fun G0 L0 w' hL hr hc hF => ?_) ?_
          · have k3 : Keeps wr w' := hF
            clear hF hc hr
            refine StepU.go rfl (fun K hK => ?_)
            go_simp
            exact hK () _ k3
          exact StepsU.nil (by simp)
        case finr20 =>
        intro G0 L0 w5 hall k5
        clear hall
        have cx := cell_keep c0 k5
        have cy := cell_keep cq1 k5
        have cz := cell_keep cq2 k5
        go_upto_region 16 with (first
          | (go_at_call 21; refine (cPac _).mono ?_; rintro e w6 ⟨rfl, h6⟩; have k6 : Keeps wr (w6.alloc (.cells #[.int .i64 x, .int .i64 y, .int .i64 z] 22)) := Keeps.alloc (Keeps.next k5 h6) _; have hP6 := At.new w6 22 #[.int .i64 x, .int .i64 y, .int .i64 z]; have c60 := cell_keep c0 k6; have c61 := cell_keep cq1 k6; have c62 := cell_keep cq2 k6)
          | (go_at_call 19; refine (cPtc _).mono ?_; rintro e w7 ⟨rfl, h7⟩; have k7 := Keeps.next k6 h7; have hP7 := hP6.later h7; have hE7 := hEr.later k7; have p1 := (row_six hP7).1; have p2 := (row_six hP7).2.1; have p3 := (row_six hP7).2.2.1; have e1 := (row_six hE7).1; have e2 := (row_six hE7).2.1; have e3 := (row_six hE7).2.2.1))
        have k7c := k7
        clear k5 k6 h6 h7
        refine region_any_inv (G := Unit) (f := ?fs20) (fun _ => [.slice (some ⟨gc, 0, none⟩) 2 kc, .int .i64 2, .bool true, .bool true, .string Yc, .string p, .int .i64 p.size, .int .u8 76, .int .i64 0, .int .u8 76, .bool false, .bool false])
          (fun _ _ w' => Keeps w7 w') () (fun _ => ?hfs20) (by kernel_rfl) (by kernel_rfl) (below_drewN (n := 1) (Below.refl _ _)) ?stepss20 ?fins20
        case hfs20 =>
          simp only [fill, List.toList_toArray, List.zip_cons_cons, List.zip_nil_left, List.zip_nil_right, List.foldl_cons, List.foldl_nil, Act.put, List.setIfInBounds_toArray, List.set_cons_succ, List.set_cons_zero]
          exact rfl
        case stepss20 =>
          refine StepsU.cons rfl (fun G0 L0 w' hL hr hc hF => ?_) ?_
          · have k3 : Keeps w7 w' := hF
            clear hF hc hr
            refine StepU.go rfl (fun K hK => ?_)
            go_simp
            exact hK () _ k3
          refine StepsU.cons rfl (fun G0 L0 w' hL hr hc hF => ?_) ?_
          · have k3 : Keeps w7 w' := hF
            clear hF hc hr
            refine StepU.go rfl (fun K hK => ?_)
            go_simp
            exact hK () _ k3
          refine StepsU.cons rfl (fun G0 L0 w' hL hr hc hF => ?_) ?_
          · have k3 : Keeps w7 w' := hF
            clear hF hc hr
            refine StepU.go rfl (fun K hK => ?_)
            go_simp
            exact hK () _ k3
          refine StepsU.cons rfl (fun G0 L0 w' hL hr hc hF => ?_) ?_
          · have k3 : Keeps w7 w' := hF
            clear hF hc hr
            refine StepU.go rfl (fun K hK => ?_)
            go_simp
            exact hK () _ k3
          refine StepsU.cons rfl (fun G0 L0 w' hL hr hc hF => ?_) ?_
          · have k3 : Keeps w7 w' := hF
            clear hF hc hr
            refine StepU.go rfl (fun K hK => ?_)
            go_simp
            exact hK () _ k3
          refine StepsU.cons rfl (fun G0 L0 w' hL hr hc hF => ?_) ?_
          · have k3 : Keeps w7 w' := hF
            clear hF hc hr
            refine StepU.go rfl (fun K hK => ?_)
            go_simp
            exact hK () _ k3
          refine StepsU.cons rfl (fun G0 L0 w' hL hr hc hF => ?_) ?_
          · have k3 : Keeps w7 w' := hF
            clear hF hc hr
            refine StepU.go rfl (fun K hK => ?_)
            go_simp
            exact hK () _ k3
          refine StepsU.cons rfl (fun G0 L0 w' hL hr hc hF => ?_) ?_
          · have k3 : Keeps w7 w' := hF
            clear hF hc hr
            refine StepU.go rfl (fun K hK => ?_)
            go_simp
            exact hK () _ k3
          refine StepsU.cons rfl (fun G0 L0 w' hL hr hc hF => ?_) ?_
          · have k3 : Keeps w7 w' := hF
            clear hF hc hr
            refine StepU.go rfl (fun K hK => ?_)
            go_simp
            exact hK () _ k3
          refine StepsU.cons rfl (fun G0 L0 w' hL hr hc hF => ?_) ?_
          · have k3 : Keeps w7 w' := hF
            clear hF hc hr
            refine StepU.go rfl (fun K hK => ?_)
            go_simp
            exact hK () _ k3
          refine StepsU.cons rfl (fun G0 L0 w' hL hr hc hF => ?_) ?_
          · have k3 : Keeps w7 w' := hF
            clear hF hc hr
            refine StepU.go rfl (fun K hK => ?_)
            go_simp
            exact hK () _ k3
          refine StepsU.cons rfl (fun G0 L0 w' hL hr hc hF => ?_) ?_
          · have k3 : Keeps w7 w' := hF
            clear hF hc hr
            refine StepU.go rfl (fun K hK => ?_)
            go_simp
            exact hK () _ k3
          exact StepsU.nil (by simp)
        case fins20 =>
        intro G0 L0 w5 hall k5
        clear hall
        have k9 := Keeps.next k7c k5
        go_wp2_with fail
        go_roundw
        case rel => first | exact ⟨1, by omega, by go_num, Keeps.next hkr k9, hEr.later k9, hrd.below k9⟩ | exact ⟨_, _, _, _, _, _, _, _, _, _, _, _, _, _, _, _, _, _, _, _, _, _, _, _, _, _, _, _, _, _, _, _, _, _, _, _, _, _, _, _, _, _, _, _, _, _, _, _, _, _, _, _, _, _, _, _, _, _, _, _, _, _, _, _, _, _, _, _, _, _, _, _, _, _, _, _, _, _, _, _, _, _, _, _, _, _, ⟨1, by omega, by go_num, Keeps.next hkr k9, hEr.later k9, hrd.below k9⟩, rfl⟩
        case measure => simp [intOf]
      · go_upto_region 10 with fail
        refine region_any_inv (G := Unit) (f := ?fr21) (fun _ => [.slice (some ⟨gc, 0, none⟩) 2 kc, .int .i64 1, .pointer (some ⟨gc, 3, none⟩), .agg #[.int .i64 d1, .int .i64 d2, .int .i64 d3], .bool true, .bool false, .bool false, .int .i64 1, .bool true, .bool true, .slice (some ⟨gc, 0, none⟩) 2 kc, .pointer (some ⟨gc, 0, none⟩), .agg #[.int .i64 c1, .int .i64 c2, .int .i64 c3], .slice (some ⟨gc, 0, none⟩) 2 kc, .pointer (some ⟨gc, 3, none⟩), .agg #[.int .i64 d1, .int .i64 d2, .int .i64 d3], .bool false, .bool false, .bool false])
          (fun _ _ w' => Keeps wr w') () (fun _ => ?hfr21) (by kernel_rfl) (by kernel_rfl) (below_drewN (n := 1) (Below.refl _ _)) ?stepsr21 ?finr21
        case hfr21 =>
          simp only [fill, List.toList_toArray, List.zip_cons_cons, List.zip_nil_left, List.zip_nil_right, List.foldl_cons, List.foldl_nil, Act.put, List.setIfInBounds_toArray, List.set_cons_succ, List.set_cons_zero]
          exact rfl
        case stepsr21 =>
          refine StepsU.cons rfl (fun G0 L0 w' hL hr hc hF => ?_) ?_
          · have k3 : Keeps wr w' := hF
            clear hF hc hr
            refine StepU.go rfl (fun K hK => ?_)
            go_simp
            exact hK () _ k3
          refine StepsU.cons rfl (fun G0 L0 w' hL hr hc hF => ?_) ?_
          · have k3 : Keeps wr w' := hF
            clear hF hc hr
            refine StepU.go rfl (fun K hK => ?_)
            go_simp
            exact hK () _ k3
          refine StepsU.cons rfl (fun G0 L0 w' hL hr hc hF => ?_) ?_
          · have k3 : Keeps wr w' := hF
            clear hF hc hr
            refine StepU.go rfl (fun K hK => ?_)
            go_simp
            exact hK () _ k3
          refine StepsU.cons rfl (fun G0 L0 w' hL hr hc hF => ?_) ?_
          · have k3 : Keeps wr w' := hF
            clear hF hc hr
            have dA1 := cell_keep d0 k3
            have dA2 := cell_keep dq1 k3
            have dA3 := cell_keep dq2 k3
            refine StepU.go rfl (fun K hK => ?_)
            go_simp
            exact hK () _ k3
          refine StepsU.cons rfl (fun G0 L0 w' hL hr hc hF => ?_) ?_
          · have k3 : Keeps wr w' := hF
            clear hF hc hr
            have call9 := cTd w'
            have C9 := Lib.hid call9
            clear call9
            refine StepU.go rfl (fun K hK => ?_)
            go_simp
            refine C9.out.mono ?_
            rintro e w2 ⟨rfl, b3⟩
            exact hK () _ (Keeps.next k3 b3)
          refine StepsU.cons rfl (fun G0 L0 w' hL hr hc hF => ?_) ?_
          · have k3 : Keeps wr w' := hF
            clear hF hc hr
            refine StepU.go rfl (fun K hK => ?_)
            go_simp
            exact hK () _ k3
          refine StepsU.cons rfl (fun G0 L0 w' hL hr hc hF => ?_) ?_
          · have k3 : Keeps wr w' := hF
            clear hF hc hr
            refine StepU.go rfl (fun K hK => ?_)
            go_simp
            exact hK () _ k3
          refine StepsU.cons rfl (fun G0 L0 w' hL hr hc hF => ?_) ?_
          · have k3 : Keeps wr w' := hF
            clear hF hc hr
            refine StepU.go rfl (fun K hK => ?_)
            go_simp
            exact hK () _ k3
          refine StepsU.cons rfl (fun G0 L0 w' hL hr hc hF => ?_) ?_
          · have k3 : Keeps wr w' := hF
            clear hF hc hr
            refine StepU.go rfl (fun K hK => ?_)
            go_simp
            exact hK () _ k3
          refine StepsU.cons rfl (fun G0 L0 w' hL hr hc hF => ?_) ?_
          · have k3 : Keeps wr w' := hF
            clear hF hc hr
            refine StepU.go rfl (fun K hK => ?_)
            go_simp
            exact hK () _ k3
          refine StepsU.cons rfl (fun G0 L0 w' hL hr hc hF => ?_) ?_
          · have k3 : Keeps wr w' := hF
            clear hF hc hr
            refine StepU.go rfl (fun K hK => ?_)
            go_simp
            exact hK () _ k3
          refine StepsU.cons rfl (fun G0 L0 w' hL hr hc hF => ?_) ?_
          · have k3 : Keeps wr w' := hF
            clear hF hc hr
            refine StepU.go rfl (fun K hK => ?_)
            go_simp
            exact hK () _ k3
          refine StepsU.cons rfl (fun G0 L0 w' hL hr hc hF => ?_) ?_
          · have k3 : Keeps wr w' := hF
            clear hF hc hr
            have cA1 := cell_keep c0 k3
            have cA2 := cell_keep cq1 k3
            have cA3 := cell_keep cq2 k3
            refine StepU.go rfl (fun K hK => ?_)
            go_simp
            exact hK () _ k3
          refine StepsU.cons rfl (fun G0 L0 w' hL hr hc hF => ?_) ?_
          · have k3 : Keeps wr w' := hF
            clear hF hc hr
            refine StepU.go rfl (fun K hK => ?_)
            go_simp
            exact hK () _ k3
          refine StepsU.cons rfl (fun G0 L0 w' hL hr hc hF => ?_) ?_
          · have k3 : Keeps wr w' := hF
            clear hF hc hr
            refine StepU.go rfl (fun K hK => ?_)
            go_simp
            exact hK () _ k3
          refine StepsU.cons rfl (fun G0 L0 w' hL hr hc hF => ?_) ?_
          · have k3 : Keeps wr w' := hF
            clear hF hc hr
            have dA1 := cell_keep d0 k3
            have dA2 := cell_keep dq1 k3
            have dA3 := cell_keep dq2 k3
            refine StepU.go rfl (fun K hK => ?_)
            go_simp
            exact hK () _ k3
          refine StepsU.cons rfl (fun G0 L0 w' hL hr hc hF => ?_) ?_
          · have k3 : Keeps wr w' := hF
            clear hF hc hr
            have h9 := eqn w'
            refine StepU.go rfl (fun K hK => ?_)
            go_simp
            exact hK () _ k3
          refine StepsU.cons rfl (fun G0 L0 w' hL hr hc hF => ?_) ?_
          · have k3 : Keeps wr w' := hF
            clear hF hc hr
            refine StepU.go rfl (fun K hK => ?_)
            go_simp
            exact hK () _ k3
          refine StepsU.cons rfl (fun G0 L0 w' hL hr hc hF => ?_) ?_
          · have k3 : Keeps wr w' := hF
            clear hF hc hr
            refine StepU.go rfl (fun K hK => ?_)
            go_simp
            exact hK () _ k3
          exact StepsU.nil (by simp)
        case finr21 =>
        intro G0 L0 w5 hall k5
        clear hall
        have dx := cell_keep d0 k5
        have dy := cell_keep dq1 k5
        have dz := cell_keep dq2 k5
        go_upto_region 16 with (first
          | (go_at_call 21; refine (cPad _).mono ?_; rintro e w6 ⟨rfl, h6⟩; have k6 : Keeps wr (w6.alloc (.cells #[.int .i64 x, .int .i64 y, .int .i64 z] 22)) := Keeps.alloc (Keeps.next k5 h6) _; have hP6 := At.new w6 22 #[.int .i64 x, .int .i64 y, .int .i64 z]; have c60 := cell_keep d0 k6; have c61 := cell_keep dq1 k6; have c62 := cell_keep dq2 k6)
          | (go_at_call 19; refine (cPtd _).mono ?_; rintro e w7 ⟨rfl, h7⟩; have k7 := Keeps.next k6 h7; have hP7 := hP6.later h7; have hE7 := hEr.later k7; have p1 := (row_six hP7).1; have p2 := (row_six hP7).2.1; have p3 := (row_six hP7).2.2.1; have e1 := (row_six hE7).1; have e2 := (row_six hE7).2.1; have e3 := (row_six hE7).2.2.1))
        have k7c := k7
        clear k5 k6 h6 h7
        refine region_any_inv (G := Unit) (f := ?fs21) (fun _ => [.slice (some ⟨gc, 0, none⟩) 2 kc, .int .i64 2, .bool true, .bool true, .string Yd, .string p, .int .i64 p.size, .int .u8 82, .int .i64 1, .int .u8 82, .bool false, .bool false])
          (fun _ _ w' => Keeps w7 w') () (fun _ => ?hfs21) (by kernel_rfl) (by kernel_rfl) (below_drewN (n := 1) (Below.refl _ _)) ?stepss21 ?fins21
        case hfs21 =>
          simp only [fill, List.toList_toArray, List.zip_cons_cons, List.zip_nil_left, List.zip_nil_right, List.foldl_cons, List.foldl_nil, Act.put, List.setIfInBounds_toArray, List.set_cons_succ, List.set_cons_zero]
          exact rfl
        case stepss21 =>
          refine StepsU.cons rfl (fun G0 L0 w' hL hr hc hF => ?_) ?_
          · have k3 : Keeps w7 w' := hF
            clear hF hc hr
            refine StepU.go rfl (fun K hK => ?_)
            go_simp
            exact hK () _ k3
          refine StepsU.cons rfl (fun G0 L0 w' hL hr hc hF => ?_) ?_
          · have k3 : Keeps w7 w' := hF
            clear hF hc hr
            refine StepU.go rfl (fun K hK => ?_)
            go_simp
            exact hK () _ k3
          refine StepsU.cons rfl (fun G0 L0 w' hL hr hc hF => ?_) ?_
          · have k3 : Keeps w7 w' := hF
            clear hF hc hr
            refine StepU.go rfl (fun K hK => ?_)
            go_simp
            exact hK () _ k3
          refine StepsU.cons rfl (fun G0 L0 w' hL hr hc hF => ?_) ?_
          · have k3 : Keeps w7 w' := hF
            clear hF hc hr
            refine StepU.go rfl (fun K hK => ?_)
            go_simp
            exact hK () _ k3
          refine StepsU.cons rfl (fun G0 L0 w' hL hr hc hF => ?_) ?_
          · have k3 : Keeps w7 w' := hF
            clear hF hc hr
            refine StepU.go rfl (fun K hK => ?_)
            go_simp
            exact hK () _ k3
          refine StepsU.cons rfl (fun G0 L0 w' hL hr hc hF => ?_) ?_
          · have k3 : Keeps w7 w' := hF
            clear hF hc hr
            refine StepU.go rfl (fun K hK => ?_)
            go_simp
            exact hK () _ k3
          refine StepsU.cons rfl (fun G0 L0 w' hL hr hc hF => ?_) ?_
          · have k3 : Keeps w7 w' := hF
            clear hF hc hr
            refine StepU.go rfl (fun K hK => ?_)
            go_simp
            exact hK () _ k3
          refine StepsU.cons rfl (fun G0 L0 w' hL hr hc hF => ?_) ?_
          · have k3 : Keeps w7 w' := hF
            clear hF hc hr
            refine StepU.go rfl (fun K hK => ?_)
            go_simp
            exact hK () _ k3
          refine StepsU.cons rfl (fun G0 L0 w' hL hr hc hF => ?_) ?_
          · have k3 : Keeps w7 w' := hF
            clear hF hc hr
            refine StepU.go rfl (fun K hK => ?_)
            go_simp
            exact hK () _ k3
          refine StepsU.cons rfl (fun G0 L0 w' hL hr hc hF => ?_) ?_
          · have k3 : Keeps w7 w' := hF
            clear hF hc hr
            refine StepU.go rfl (fun K hK => ?_)
            go_simp
            exact hK () _ k3
          refine StepsU.cons rfl (fun G0 L0 w' hL hr hc hF => ?_) ?_
          · have k3 : Keeps w7 w' := hF
            clear hF hc hr
            refine StepU.go rfl (fun K hK => ?_)
            go_simp
            exact hK () _ k3
          refine StepsU.cons rfl (fun G0 L0 w' hL hr hc hF => ?_) ?_
          · have k3 : Keeps w7 w' := hF
            clear hF hc hr
            refine StepU.go rfl (fun K hK => ?_)
            go_simp
            exact hK () _ k3
          exact StepsU.nil (by simp)
        case fins21 =>
        intro G0 L0 w5 hall k5
        clear hall
        have k9 := Keeps.next k7c k5
        go_wp2_with fail
        go_roundw
        case rel => first | exact ⟨2, by omega, by go_num, Keeps.next hkr k9, hEr.later k9, hrd.below k9⟩ | exact ⟨_, _, _, _, _, _, _, _, _, _, _, _, _, _, _, _, _, _, _, _, _, _, _, _, _, _, _, _, _, _, _, _, _, _, _, _, _, _, _, _, _, _, _, _, _, _, _, _, _, _, _, _, _, _, _, _, _, _, _, _, _, _, _, _, _, _, _, _, _, _, _, _, _, _, _, _, _, _, _, _, _, _, _, _, _, _, ⟨2, by omega, by go_num, Keeps.next hkr k9, hEr.later k9, hrd.below k9⟩, rfl⟩
        case measure => simp [intOf]
      · go_wp2_with (go_at_call 12; refine (cA _).mono ?_; rintro e w9 ⟨rfl, h9⟩)
        go_ret
        exact ⟨rfl, Keeps.next hkr h9⟩
  · simp at hll
end Go.Proofs.YteffkcnlipdgaaaDoor
