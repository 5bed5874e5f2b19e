/- The walk of Gaps. -/
import Derived.Test.YtfekggmdhmkemaaDoorGe
namespace Go.Proofs.YtfekggmdhmkemaaDoor
open Go.RowKit Go.Shelf
set_option linter.unusedVariables false
set_option linter.unusedSimpArgs false
attribute [local go_sem] Oper.semAt_some

set_option maxHeartbeats 4000000 in
set_option maxRecDepth 100000 in
theorem gaps_yes (m : Nat) (hm : m ≤ 1000) (w : World) :
    Calls Tryd.prog 27 #[.int .i64 m] w fun e w' => e = .returned (.tuple #[.string ⟨(gapsL m).toArray⟩, .int .i64 0]) ∧ Keeps w w' := by
  have hd1 : decide ((m : Int) < 0) = false := by simp
  have hd2 : decide ((1000 : Int) < m) = false := by simp; omega
  obtain ⟨i0, hi, hz0, hz1, hz2⟩ := info_parts infoB
  refine (callsIn_wide (n := 5)).1 ?_
  refine callsIn_of_wp_marks Tryd.func27 rfl trivial ?_ rfl
  simp only [Tryd.ntmps27, List.size_toArray, List.length_cons, List.length_nil, Nat.reduceAdd, Nat.reduceSub, Array.replicate_succ, Array.replicate_zero, List.push_toArray, List.append_toArray, List.nil_append, List.cons_append]
  have hA0 := At.new2 w (.cells #[.slice none 0 0] 56) 24 (gv (0, 0))
  gi_wp2_with (refine in_store_row rfl 24 _ _ rfl (w.heap.size + 1) (gv (0, 0)) rfl rfl 24 (gv (0, 0)) hA0 (sizeV _) rfl (oneV _) ?_)
  refine ⟨trivial, (callsIn_wide.2 (rungs_c 1 m _)).mono ?_⟩
  rintro e w2 ⟨rfl, rfl⟩
  gi_wp2_with fail
  obtain ⟨Y, hY⟩ : ∃ Y, ((((w.alloc (.cells #[.slice none 0 0] 56)).alloc (.cells #[.int .i64 0, .int .i64 0] 24)).setRow (w.heap.size + 1) (gv (0, 0))).alloc (.cells #[.int .i64 1] 3)).alloc (.cells #[.int .i64 m] 3) = Y := ⟨_, rfl⟩
  have hYs : Y.heap.size = w.heap.size + 4 := by rw [← hY]; simp
  have hlY : At Y w.heap.size 56 #[.slice none 0 0] := by rw [← hY]; exact ((((At.new w _ _).alloc _).rowfar (by omega) _).alloc _).alloc _
  have hbY : At Y (w.heap.size + 1) 24 (gv (0, 0)) := by rw [← hY]; exact ((hA0.row (gv (0, 0))).alloc _).alloc _
  have h1Y : At Y (w.heap.size + 1 + 1) 3 #[.int .i64 1] := by rw [← hY]; exact (At.new' _ _ (by simp) _ _).alloc _
  have hmY : At Y (w.heap.size + 1 + 1 + 1) 3 #[.int .i64 m] := by rw [← hY]; exact At.new' _ _ (by simp) _ _
  have hkY : Keeps w Y := by rw [← hY]; exact Keeps.alloc (Keeps.alloc (below_row (Keeps.alloc (Keeps.alloc (Below.refl _ _) _) _) (by omega) _) _) _
  rw [hY]
  clear hY hA0
  have hit := rungs_iter 1 m (by decide) (by omega) (by omega) (w.heap.size + 1 + 1) (w.heap.size + 1 + 1 + 1) (fun r => r = w.heap.size + 1 + 1 ∨ r = w.heap.size + 1 + 1 + 1) (.inl rfl) (.inr rfl) Y (fun r h => by omega) h1Y hmY
  rw [show ((m : Int) + 1 - 1).toNat = m by omega] at hit
  refine range_mine (ups 1 m) (gf := 61) (lb := #[.pointer (some ⟨w.heap.size + 1 + 1, 0, none⟩), .pointer (some ⟨w.heap.size + 1 + 1 + 1, 0, none⟩)]) rfl (enters_of Tryd.func61 (by kernel_rfl) rfl)
    hit (fun _ _ => rfl) (fun r h => by omega) (fun _ _ _ _ _ _ => trivial)
    (fun j M Z => ∃ v, At Z w.heap.size 56 #[v] ∧ Z.ownsRow (Y.heap.size + 2) 5 1 v j (bytes (gapsL j)) ∧ (∀ b, v.ownBlock = some b → M b) ∧ At Z (w.heap.size + 1) 24 (gv (rungG j)) ∧ Below w.heap.size w Z) (fun _ _ _ => False)
    (fun j M Z Z' ⟨v, h1, h2, h3, h4, h5⟩ hh => ⟨v, h1.holds hh (.inl (by omega)), own_holds h2 hh (fun b hb => .inr (h3 b hb)), h3, h4.holds hh (.inl (by omega)), ((Holds.of_below h5).trans2 hh (fun r _ h => .inl (by omega))).below (Nat.le_refl _)⟩) (fun _ _ _ _ h _ => h)
    ⟨_, hlY, World.ownsRow_nil _ _ _ _, fun b hb => by simp [Value.ownBlock] at hb, by rw [show ((0 : Nat) : Int) = 0 from rfl, rungG_zero]; exact hbY, hkY⟩
    (fun x a' Z => ∃ b6, Y.heap.size + 2 ≤ b6 ∧ At Z b6 24 (gv (rungG x)) ∧ a' = { tmps := #[.int .i64 m, undef, .string { data := #[] }, .int .i64 0, .pointer (some ⟨w.heap.size, 0, none⟩), .pointer (some ⟨w.heap.size + 1, 0, none⟩), .pointer (some ⟨b6, 0, none⟩), undef, .int .i64 m,
      .bool false, .bool false, .int .i64 m, .bool false, .bool false, .agg #[.int .i64 0, .int .i64 0], .int .i64 m,
      .func (.func 61) #[] #[.pointer (some ⟨w.heap.size + 1 + 1, 0, none⟩), .pointer (some ⟨w.heap.size + 1 + 1 + 1, 0, none⟩)], .agg (gv (rungG x)), undef, undef, undef, undef, undef, undef, undef, undef, undef, undef, undef, undef], defers := [] })
    (fun x a Z Z' hh ⟨b6, h1, h2, h3⟩ => ⟨b6, h1, h2.holds hh (by omega), h3⟩) ?assign ?body ?done ?stop
  case assign =>
    intro l' j x M1 Z _ _ _ hsz
    have HYs := Lib.hid hYs
    clear hYs
    simp only [encR]
    gi_wp2_with (refine in_store_row rfl 24 _ _ rfl Z.heap.size (gv (rungG x)) rfl rfl 24 (gv (0, 0)) (At.new Z 24 _) (sizeV _) rfl (oneV _) ?_)
    refine ⟨Holds.mono (Holds.row (K := fun r => r ≠ Z.heap.size) ((Holds.refl _ Z).alloc _) _ (by simp) _) (fun r hr _ => by omega), Z.heap.size, hsz, (At.new Z 24 (gv (0, 0))).row _, rfl⟩
  case body =>
    rintro l' j x M1 a' Z hx ⟨v, hl, hown, hvM, hb, hbel⟩ hM1 hKin _ ⟨b6, hb6, hp, rfl⟩ hsz
    obtain ⟨hj, rfl⟩ := ups_of _ _ _ _ hx
    have s1 := rungG_sm (1 + j) (by omega)
    have s2 := rungG_sm j (by omega)
    have hmi := fun y => minus_c (rungG (1 + j)).1 (rungG (1 + j)).2 (rungG j).1 (rungG j).2 s1.1 s1.2 s2.1 s2.2 y
    have Hg := Lib.hid (gapsL_succ j)
    have Hgl : Hid (gapL j = if gapB j then 76 else 83) := Lib.hid rfl
    have hgbx : gapB j = (decide ((rungG (1 + j)).1 - (rungG j).1 = 1) && decide ((rungG (1 + j)).2 - (rungG j).2 = 0)) := rfl
    have HvM := Lib.hid hvM
    have hgl := gapsL_length j
    have hl0 := hl.lt
    have hb0 := hb.lt
    have hp0 := hp.lt
    have hb6w : w.heap.size + 6 ≤ b6 := by omega
    have hYw : w.heap.size + 4 ≤ Y.heap.size := by omega
    have HYs := Lib.hid hYs
    clear hYs hx s1 s2 hvM
    have Hgll := Lib.hid hgl
    clear hgl
    generalize gapsL j = L at *
    generalize gapL (j : Int) = c at *
    have hr1 : ∃ r1, rungG (1 + (j : Int)) = r1 := ⟨_, rfl⟩
    obtain ⟨r1, hr1⟩ := hr1
    have hr0 : ∃ r0, rungG (j : Int) = r0 := ⟨_, rfl⟩
    obtain ⟨r0, hr0⟩ := hr0
    rw [hr1] at hp
    simp only [hr1, hr0] at hmi hb hgbx
    have Hr1 := Lib.hid hr1
    clear hr1 hr0
    have key : ∃ p q : Bool, (r1.1 - r0.1 == 1) = p ∧ (r1.2 - r0.2 == 0) = q ∧ c = if p && q then 76 else 83 :=
      ⟨_, _, rfl, rfl, by rw [Hgl.out, hgbx]; rfl⟩
    obtain ⟨p, q, hp1, hq1, hc1⟩ := key
    clear Hgl hgbx
    rcases p with _ | _ <;> rcases q with _ | _
    · have b1 : (r1.1 - r0.1 == 1) = false := hp1
      have b2 : (r1.2 - r0.2 == 0) = false := hq1
      have Hc : Hid (c = 83) := Lib.hid hc1
      clear hp1 hq1 hc1
      gi_wp2_with (first
        | refine in_load_row rfl 24 _ rfl b6 rfl 24 _ _ hp Tryd.underlying24 rfl (sizeV _) ?_
        | refine in_load_row rfl 24 _ rfl (w.heap.size + 1) rfl 24 _ _ hb Tryd.underlying24 rfl (sizeV _) ?_)
      refine ⟨trivial, ((callsIn_wide.2 (hmi _)).inRound l').mono ?_⟩
      rintro e w2 ⟨rfl, hk2⟩
      have hl2 := (hl.later hk2).alloc (.cells #[.int .u8 83] 5)
      have hb2 := (hb.later hk2).alloc (.cells #[.int .u8 83] 5)
      have hp2 := (hp.later hk2).alloc (.cells #[.int .u8 83] 5)
      have hown2 := (own_later hown hk2).alloc (.cells #[.int .u8 83] 5)
      have cl2 := (hl.later hk2).cell 0
      simp only [List.getElem?_toArray, List.getElem?_cons_zero] at cl2
      have hz2' := hk2.size
      have c1 : j + 1 ≤ maxLen := by unfold maxLen; omega
      have c2 : (j + 1) * 1 ≤ 140737488355328 := by omega
      have c3 : Y.heap.size + 2 ≤ (w2.alloc (.cells #[.int .u8 83] 5)).heap.size := by simp; omega
      clear hmi
      gi_upto_region 11 with (first
        | (gi_at_builtin
           refine in_append_lies _ rfl _ _ 56 rfl (Y.heap.size + 2) 5 i0 _ 1 1 Tryd.underlying56 hi hz0 hz1 hz2 rfl (by decide) _ j (bytes L) rfl hown2 ⟨w2.heap.size, 0, none⟩ 1 1 [.int .u8 83] rfl rfl (new_cells _ _ _ _ rfl) (by simp [Value.oneCell']) (by decide) c1 c2 c3 ?_
           intro g4 cap4 w4 hown4 hgrow4 hg4 hlt4
           have hl4 := hl2.grown hgrow4 (own_ne hown hl (by decide))
           have hb4 := hb2.grown hgrow4 (own_ne hown hb (by decide))
           have hp4 := hp2.grown hgrow4 (own_ne hown hp (by decide))
           have fl4 := hl4.frozen 0
           have cl4 := hl4.cell 0
           simp only [List.getElem?_toArray, List.getElem?_cons_zero] at cl4))
      have hb5 := hb4.far (p := ⟨w.heap.size, 0, none⟩) (by simp) (.slice (some ⟨g4, 0, none⟩) (j + 1) cap4)
      have hp5 := hp4.far (p := ⟨w.heap.size, 0, none⟩) (by simp; omega) (.slice (some ⟨g4, 0, none⟩) (j + 1) cap4)
      have hl5 := hl4.set 0 (.slice (some ⟨g4, 0, none⟩) (j + 1) cap4)
      have hown5 := own_set (o := 0) (u := .slice (some ⟨g4, 0, none⟩) (j + 1) cap4) hown4 (own_ne hown4 hl4 (by decide))
      have hk4 : Holds (fun r => r < w.heap.size ∨ (r ≠ w.heap.size ∧ ¬ M1 r)) Z (w4.setCell ⟨w.heap.size, 0, none⟩ (.slice (some ⟨g4, 0, none⟩) (j + 1) cap4)) :=
        (((Holds.of_keeps hk2 _).alloc _).grown hgrow4 (fun r hr => (fun h => h.elim (fun h => by have := own_base hown _ hr; omega) (fun h => h.2 (HvM.out _ hr))))).set _ (by simp) _
      have hs5 : (w4.setCell ⟨w.heap.size, 0, none⟩ (.slice (some ⟨g4, 0, none⟩) (j + 1) cap4)).heap.size = w4.heap.size := by simp [World.setCell]
      generalize w4.setCell ⟨w.heap.size, 0, none⟩ (.slice (some ⟨g4, 0, none⟩) (j + 1) cap4) = w5 at *
      clear fl4 cl4 hl4 hb4 hp4 hl2 hb2 hp2 hown2 cl2 c1 c2 c3
      gi_wp2_with (first
        | refine in_load_row rfl 24 _ rfl b6 rfl 24 _ _ hp5 Tryd.underlying24 rfl (sizeV _) ?_
        | refine in_store_row rfl 24 _ _ rfl (w.heap.size + 1) (gv r1) rfl rfl 24 _ hb5 (sizeV _) rfl (oneV _) ?_)
      have hYs := HYs.out
      have hb7 := hb5.row (gv r1)
      have hl7 := hl5.rowfar (by omega) (gv r1) (g' := w.heap.size + 1)
      have hk7 : Holds (fun r => (r = w.heap.size + 1 + 1 ∨ r = w.heap.size + 1 + 1 + 1) ∨ (Y.heap.size ≤ r ∧ ¬ M1 r)) Z (w5.setRow (w.heap.size + 1) (gv r1)) :=
        (hk4.mono (fun r _ h => h.elim (fun h => .inr ⟨by omega, fun h' => by have := (hM1 r h').1; omega⟩) (fun h => .inr ⟨by omega, h.2⟩))).row _ (fun h => by omega) _
      have hk8 : Holds (fun r => r < w.heap.size) Z (w5.setRow (w.heap.size + 1) (gv r1)) := (hk4.mono (fun r _ h => .inl h)).row _ (by omega) _
      refine ⟨fun r => r = g4, fun r h => ?_, fun r h => ?_, hk7, _, by simpa using hl7, ?_, fun b h => ?_, ?_, ((Holds.of_below hbel).trans hk8).below (Nat.le_refl _)⟩
      · subst h; simp [hs5]; exact hlt4
      · subst h
        rcases hg4 with h | h
        · exact .inl (HvM.out _ h)
        · exact .inr (by rw [h]; simp; omega)
      · rw [Hg.out, bytes_append, Hc.out]
        exact own_holds hown5 (K := fun r => r ≠ w.heap.size + 1) ((Holds.refl _ _).row _ (by simp) _) (fun b h => by
          have := own_base hown5 b h; omega)
      · simpa [Value.ownBlock] using h.symm
      · rw [show ((j + 1 : Nat) : Int) = 1 + (j : Int) by omega, Hr1.out]
        exact hb7
    · have b1 : (r1.1 - r0.1 == 1) = false := hp1
      have b2 : (r1.2 - r0.2 == 0) = true := hq1
      have Hc : Hid (c = 83) := Lib.hid hc1
      clear hp1 hq1 hc1
      gi_wp2_with (first
        | refine in_load_row rfl 24 _ rfl b6 rfl 24 _ _ hp Tryd.underlying24 rfl (sizeV _) ?_
        | refine in_load_row rfl 24 _ rfl (w.heap.size + 1) rfl 24 _ _ hb Tryd.underlying24 rfl (sizeV _) ?_)
      refine ⟨trivial, ((callsIn_wide.2 (hmi _)).inRound l').mono ?_⟩
      rintro e w2 ⟨rfl, hk2⟩
      have hl2 := (hl.later hk2).alloc (.cells #[.int .u8 83] 5)
      have hb2 := (hb.later hk2).alloc (.cells #[.int .u8 83] 5)
      have hp2 := (hp.later hk2).alloc (.cells #[.int .u8 83] 5)
      have hown2 := (own_later hown hk2).alloc (.cells #[.int .u8 83] 5)
      have cl2 := (hl.later hk2).cell 0
      simp only [List.getElem?_toArray, List.getElem?_cons_zero] at cl2
      have hz2' := hk2.size
      have c1 : j + 1 ≤ maxLen := by unfold maxLen; omega
      have c2 : (j + 1) * 1 ≤ 140737488355328 := by omega
      have c3 : Y.heap.size + 2 ≤ (w2.alloc (.cells #[.int .u8 83] 5)).heap.size := by simp; omega
      clear hmi
      gi_upto_region 11 with (first
        | (gi_at_builtin
           refine in_append_lies _ rfl _ _ 56 rfl (Y.heap.size + 2) 5 i0 _ 1 1 Tryd.underlying56 hi hz0 hz1 hz2 rfl (by decide) _ j (bytes L) rfl hown2 ⟨w2.heap.size, 0, none⟩ 1 1 [.int .u8 83] rfl rfl (new_cells _ _ _ _ rfl) (by simp [Value.oneCell']) (by decide) c1 c2 c3 ?_
           intro g4 cap4 w4 hown4 hgrow4 hg4 hlt4
           have hl4 := hl2.grown hgrow4 (own_ne hown hl (by decide))
           have hb4 := hb2.grown hgrow4 (own_ne hown hb (by decide))
           have hp4 := hp2.grown hgrow4 (own_ne hown hp (by decide))
           have fl4 := hl4.frozen 0
           have cl4 := hl4.cell 0
           simp only [List.getElem?_toArray, List.getElem?_cons_zero] at cl4))
      have hb5 := hb4.far (p := ⟨w.heap.size, 0, none⟩) (by simp) (.slice (some ⟨g4, 0, none⟩) (j + 1) cap4)
      have hp5 := hp4.far (p := ⟨w.heap.size, 0, none⟩) (by simp; omega) (.slice (some ⟨g4, 0, none⟩) (j + 1) cap4)
      have hl5 := hl4.set 0 (.slice (some ⟨g4, 0, none⟩) (j + 1) cap4)
      have hown5 := own_set (o := 0) (u := .slice (some ⟨g4, 0, none⟩) (j + 1) cap4) hown4 (own_ne hown4 hl4 (by decide))
      have hk4 : Holds (fun r => r < w.heap.size ∨ (r ≠ w.heap.size ∧ ¬ M1 r)) Z (w4.setCell ⟨w.heap.size, 0, none⟩ (.slice (some ⟨g4, 0, none⟩) (j + 1) cap4)) :=
        (((Holds.of_keeps hk2 _).alloc _).grown hgrow4 (fun r hr => (fun h => h.elim (fun h => by have := own_base hown _ hr; omega) (fun h => h.2 (HvM.out _ hr))))).set _ (by simp) _
      have hs5 : (w4.setCell ⟨w.heap.size, 0, none⟩ (.slice (some ⟨g4, 0, none⟩) (j + 1) cap4)).heap.size = w4.heap.size := by simp [World.setCell]
      generalize w4.setCell ⟨w.heap.size, 0, none⟩ (.slice (some ⟨g4, 0, none⟩) (j + 1) cap4) = w5 at *
      clear fl4 cl4 hl4 hb4 hp4 hl2 hb2 hp2 hown2 cl2 c1 c2 c3
      gi_wp2_with (first
        | refine in_load_row rfl 24 _ rfl b6 rfl 24 _ _ hp5 Tryd.underlying24 rfl (sizeV _) ?_
        | refine in_store_row rfl 24 _ _ rfl (w.heap.size + 1) (gv r1) rfl rfl 24 _ hb5 (sizeV _) rfl (oneV _) ?_)
      have hYs := HYs.out
      have hb7 := hb5.row (gv r1)
      have hl7 := hl5.rowfar (by omega) (gv r1) (g' := w.heap.size + 1)
      have hk7 : Holds (fun r => (r = w.heap.size + 1 + 1 ∨ r = w.heap.size + 1 + 1 + 1) ∨ (Y.heap.size ≤ r ∧ ¬ M1 r)) Z (w5.setRow (w.heap.size + 1) (gv r1)) :=
        (hk4.mono (fun r _ h => h.elim (fun h => .inr ⟨by omega, fun h' => by have := (hM1 r h').1; omega⟩) (fun h => .inr ⟨by omega, h.2⟩))).row _ (fun h => by omega) _
      have hk8 : Holds (fun r => r < w.heap.size) Z (w5.setRow (w.heap.size + 1) (gv r1)) := (hk4.mono (fun r _ h => .inl h)).row _ (by omega) _
      refine ⟨fun r => r = g4, fun r h => ?_, fun r h => ?_, hk7, _, by simpa using hl7, ?_, fun b h => ?_, ?_, ((Holds.of_below hbel).trans hk8).below (Nat.le_refl _)⟩
      · subst h; simp [hs5]; exact hlt4
      · subst h
        rcases hg4 with h | h
        · exact .inl (HvM.out _ h)
        · exact .inr (by rw [h]; simp; omega)
      · rw [Hg.out, bytes_append, Hc.out]
        exact own_holds hown5 (K := fun r => r ≠ w.heap.size + 1) ((Holds.refl _ _).row _ (by simp) _) (fun b h => by
          have := own_base hown5 b h; omega)
      · simpa [Value.ownBlock] using h.symm
      · rw [show ((j + 1 : Nat) : Int) = 1 + (j : Int) by omega, Hr1.out]
        exact hb7
    · have b1 : (r1.1 - r0.1 == 1) = true := hp1
      have b2 : (r1.2 - r0.2 == 0) = false := hq1
      have Hc : Hid (c = 83) := Lib.hid hc1
      clear hp1 hq1 hc1
      gi_wp2_with (first
        | refine in_load_row rfl 24 _ rfl b6 rfl 24 _ _ hp Tryd.underlying24 rfl (sizeV _) ?_
        | refine in_load_row rfl 24 _ rfl (w.heap.size + 1) rfl 24 _ _ hb Tryd.underlying24 rfl (sizeV _) ?_)
      refine ⟨trivial, ((callsIn_wide.2 (hmi _)).inRound l').mono ?_⟩
      rintro e w2 ⟨rfl, hk2⟩
      have hl2 := (hl.later hk2).alloc (.cells #[.int .u8 83] 5)
      have hb2 := (hb.later hk2).alloc (.cells #[.int .u8 83] 5)
      have hp2 := (hp.later hk2).alloc (.cells #[.int .u8 83] 5)
      have hown2 := (own_later hown hk2).alloc (.cells #[.int .u8 83] 5)
      have cl2 := (hl.later hk2).cell 0
      simp only [List.getElem?_toArray, List.getElem?_cons_zero] at cl2
      have hz2' := hk2.size
      have c1 : j + 1 ≤ maxLen := by unfold maxLen; omega
      have c2 : (j + 1) * 1 ≤ 140737488355328 := by omega
      have c3 : Y.heap.size + 2 ≤ (w2.alloc (.cells #[.int .u8 83] 5)).heap.size := by simp; omega
      clear hmi
      gi_upto_region 11 with (first
        | (gi_at_builtin
           refine in_append_lies _ rfl _ _ 56 rfl (Y.heap.size + 2) 5 i0 _ 1 1 Tryd.underlying56 hi hz0 hz1 hz2 rfl (by decide) _ j (bytes L) rfl hown2 ⟨w2.heap.size, 0, none⟩ 1 1 [.int .u8 83] rfl rfl (new_cells _ _ _ _ rfl) (by simp [Value.oneCell']) (by decide) c1 c2 c3 ?_
           intro g4 cap4 w4 hown4 hgrow4 hg4 hlt4
           have hl4 := hl2.grown hgrow4 (own_ne hown hl (by decide))
           have hb4 := hb2.grown hgrow4 (own_ne hown hb (by decide))
           have hp4 := hp2.grown hgrow4 (own_ne hown hp (by decide))
           have fl4 := hl4.frozen 0
           have cl4 := hl4.cell 0
           simp only [List.getElem?_toArray, List.getElem?_cons_zero] at cl4))
      have hb5 := hb4.far (p := ⟨w.heap.size, 0, none⟩) (by simp) (.slice (some ⟨g4, 0, none⟩) (j + 1) cap4)
      have hp5 := hp4.far (p := ⟨w.heap.size, 0, none⟩) (by simp; omega) (.slice (some ⟨g4, 0, none⟩) (j + 1) cap4)
      have hl5 := hl4.set 0 (.slice (some ⟨g4, 0, none⟩) (j + 1) cap4)
      have hown5 := own_set (o := 0) (u := .slice (some ⟨g4, 0, none⟩) (j + 1) cap4) hown4 (own_ne hown4 hl4 (by decide))
      have hk4 : Holds (fun r => r < w.heap.size ∨ (r ≠ w.heap.size ∧ ¬ M1 r)) Z (w4.setCell ⟨w.heap.size, 0, none⟩ (.slice (some ⟨g4, 0, none⟩) (j + 1) cap4)) :=
        (((Holds.of_keeps hk2 _).alloc _).grown hgrow4 (fun r hr => (fun h => h.elim (fun h => by have := own_base hown _ hr; omega) (fun h => h.2 (HvM.out _ hr))))).set _ (by simp) _
      have hs5 : (w4.setCell ⟨w.heap.size, 0, none⟩ (.slice (some ⟨g4, 0, none⟩) (j + 1) cap4)).heap.size = w4.heap.size := by simp [World.setCell]
      generalize w4.setCell ⟨w.heap.size, 0, none⟩ (.slice (some ⟨g4, 0, none⟩) (j + 1) cap4) = w5 at *
      clear fl4 cl4 hl4 hb4 hp4 hl2 hb2 hp2 hown2 cl2 c1 c2 c3
      gi_wp2_with (first
        | refine in_load_row rfl 24 _ rfl b6 rfl 24 _ _ hp5 Tryd.underlying24 rfl (sizeV _) ?_
        | refine in_store_row rfl 24 _ _ rfl (w.heap.size + 1) (gv r1) rfl rfl 24 _ hb5 (sizeV _) rfl (oneV _) ?_)
      have hYs := HYs.out
      have hb7 := hb5.row (gv r1)
      have hl7 := hl5.rowfar (by omega) (gv r1) (g' := w.heap.size + 1)
      have hk7 : Holds (fun r => (r = w.heap.size + 1 + 1 ∨ r = w.heap.size + 1 + 1 + 1) ∨ (Y.heap.size ≤ r ∧ ¬ M1 r)) Z (w5.setRow (w.heap.size + 1) (gv r1)) :=
        (hk4.mono (fun r _ h => h.elim (fun h => .inr ⟨by omega, fun h' => by have := (hM1 r h').1; omega⟩) (fun h => .inr ⟨by omega, h.2⟩))).row _ (fun h => by omega) _
      have hk8 : Holds (fun r => r < w.heap.size) Z (w5.setRow (w.heap.size + 1) (gv r1)) := (hk4.mono (fun r _ h => .inl h)).row _ (by omega) _
      refine ⟨fun r => r = g4, fun r h => ?_, fun r h => ?_, hk7, _, by simpa using hl7, ?_, fun b h => ?_, ?_, ((Holds.of_below hbel).trans hk8).below (Nat.le_refl _)⟩
      · subst h; simp [hs5]; exact hlt4
      · subst h
        rcases hg4 with h | h
        · exact .inl (HvM.out _ h)
        · exact .inr (by rw [h]; simp; omega)
      · rw [Hg.out, bytes_append, Hc.out]
        exact own_holds hown5 (K := fun r => r ≠ w.heap.size + 1) ((Holds.refl _ _).row _ (by simp) _) (fun b h => by
          have := own_base hown5 b h; omega)
      · simpa [Value.ownBlock] using h.symm
      · rw [show ((j + 1 : Nat) : Int) = 1 + (j : Int) by omega, Hr1.out]
        exact hb7
    · have b1 : (r1.1 - r0.1 == 1) = true := hp1
      have b2 : (r1.2 - r0.2 == 0) = true := hq1
      have Hc : Hid (c = 76) := Lib.hid hc1
      clear hp1 hq1 hc1
      gi_wp2_with (first
        | refine in_load_row rfl 24 _ rfl b6 rfl 24 _ _ hp Tryd.underlying24 rfl (sizeV _) ?_
        | refine in_load_row rfl 24 _ rfl (w.heap.size + 1) rfl 24 _ _ hb Tryd.underlying24 rfl (sizeV _) ?_)
      refine ⟨trivial, ((callsIn_wide.2 (hmi _)).inRound l').mono ?_⟩
      rintro e w2 ⟨rfl, hk2⟩
      have hl2 := (hl.later hk2).alloc (.cells #[.int .u8 76] 5)
      have hb2 := (hb.later hk2).alloc (.cells #[.int .u8 76] 5)
      have hp2 := (hp.later hk2).alloc (.cells #[.int .u8 76] 5)
      have hown2 := (own_later hown hk2).alloc (.cells #[.int .u8 76] 5)
      have cl2 := (hl.later hk2).cell 0
      simp only [List.getElem?_toArray, List.getElem?_cons_zero] at cl2
      have hz2' := hk2.size
      have c1 : j + 1 ≤ maxLen := by unfold maxLen; omega
      have c2 : (j + 1) * 1 ≤ 140737488355328 := by omega
      have c3 : Y.heap.size + 2 ≤ (w2.alloc (.cells #[.int .u8 76] 5)).heap.size := by simp; omega
      clear hmi
      gi_upto_region 11 with (first
        | (gi_at_builtin
           refine in_append_lies _ rfl _ _ 56 rfl (Y.heap.size + 2) 5 i0 _ 1 1 Tryd.underlying56 hi hz0 hz1 hz2 rfl (by decide) _ j (bytes L) rfl hown2 ⟨w2.heap.size, 0, none⟩ 1 1 [.int .u8 76] rfl rfl (new_cells _ _ _ _ rfl) (by simp [Value.oneCell']) (by decide) c1 c2 c3 ?_
           intro g4 cap4 w4 hown4 hgrow4 hg4 hlt4
           have hl4 := hl2.grown hgrow4 (own_ne hown hl (by decide))
           have hb4 := hb2.grown hgrow4 (own_ne hown hb (by decide))
           have hp4 := hp2.grown hgrow4 (own_ne hown hp (by decide))
           have fl4 := hl4.frozen 0
           have cl4 := hl4.cell 0
           simp only [List.getElem?_toArray, List.getElem?_cons_zero] at cl4))
      have hb5 := hb4.far (p := ⟨w.heap.size, 0, none⟩) (by simp) (.slice (some ⟨g4, 0, none⟩) (j + 1) cap4)
      have hp5 := hp4.far (p := ⟨w.heap.size, 0, none⟩) (by simp; omega) (.slice (some ⟨g4, 0, none⟩) (j + 1) cap4)
      have hl5 := hl4.set 0 (.slice (some ⟨g4, 0, none⟩) (j + 1) cap4)
      have hown5 := own_set (o := 0) (u := .slice (some ⟨g4, 0, none⟩) (j + 1) cap4) hown4 (own_ne hown4 hl4 (by decide))
      have hk4 : Holds (fun r => r < w.heap.size ∨ (r ≠ w.heap.size ∧ ¬ M1 r)) Z (w4.setCell ⟨w.heap.size, 0, none⟩ (.slice (some ⟨g4, 0, none⟩) (j + 1) cap4)) :=
        (((Holds.of_keeps hk2 _).alloc _).grown hgrow4 (fun r hr => (fun h => h.elim (fun h => by have := own_base hown _ hr; omega) (fun h => h.2 (HvM.out _ hr))))).set _ (by simp) _
      have hs5 : (w4.setCell ⟨w.heap.size, 0, none⟩ (.slice (some ⟨g4, 0, none⟩) (j + 1) cap4)).heap.size = w4.heap.size := by simp [World.setCell]
      generalize w4.setCell ⟨w.heap.size, 0, none⟩ (.slice (some ⟨g4, 0, none⟩) (j + 1) cap4) = w5 at *
      clear fl4 cl4 hl4 hb4 hp4 hl2 hb2 hp2 hown2 cl2 c1 c2 c3
      gi_wp2_with (first
        | refine in_load_row rfl 24 _ rfl b6 rfl 24 _ _ hp5 Tryd.underlying24 rfl (sizeV _) ?_
        | refine in_store_row rfl 24 _ _ rfl (w.heap.size + 1) (gv r1) rfl rfl 24 _ hb5 (sizeV _) rfl (oneV _) ?_)
      have hYs := HYs.out
      have hb7 := hb5.row (gv r1)
      have hl7 := hl5.rowfar (by omega) (gv r1) (g' := w.heap.size + 1)
      have hk7 : Holds (fun r => (r = w.heap.size + 1 + 1 ∨ r = w.heap.size + 1 + 1 + 1) ∨ (Y.heap.size ≤ r ∧ ¬ M1 r)) Z (w5.setRow (w.heap.size + 1) (gv r1)) :=
        (hk4.mono (fun r _ h => h.elim (fun h => .inr ⟨by omega, fun h' => by have := (hM1 r h').1; omega⟩) (fun h => .inr ⟨by omega, h.2⟩))).row _ (fun h => by omega) _
      have hk8 : Holds (fun r => r < w.heap.size) Z (w5.setRow (w.heap.size + 1) (gv r1)) := (hk4.mono (fun r _ h => .inl h)).row _ (by omega) _
      refine ⟨fun r => r = g4, fun r h => ?_, fun r h => ?_, hk7, _, by simpa using hl7, ?_, fun b h => ?_, ?_, ((Holds.of_below hbel).trans hk8).below (Nat.le_refl _)⟩
      · subst h; simp [hs5]; exact hlt4
      · subst h
        rcases hg4 with h | h
        · exact .inl (HvM.out _ h)
        · exact .inr (by rw [h]; simp; omega)
      · rw [Hg.out, bytes_append, Hc.out]
        exact own_holds hown5 (K := fun r => r ≠ w.heap.size + 1) ((Holds.refl _ _).row _ (by simp) _) (fun b h => by
          have := own_base hown5 b h; omega)
      · simpa [Value.ownBlock] using h.symm
      · rw [show ((j + 1 : Nat) : Int) = 1 + (j : Int) by omega, Hr1.out]
        exact hb7
  case done =>
    rintro M1 Z ⟨v, hl, hown, hvM, hb, hbel⟩ hK hM1
    rw [ups_length] at hown
    have hs := str_own hown
    have cl := hl.cell 0
    simp only [List.getElem?_toArray, List.getElem?_cons_zero] at cl
    have HYs := Lib.hid hYs
    have HK := Lib.hid hK
    clear hYs hK hb hvM hl
    gi_wp2_with fail
    have hYs := HYs.out
    refine leaves_marks [Y.heap.size] _ (by simp) (fun D h => ?_) (fun W' hh => ⟨.tuple #[.string ⟨(gapsL m).toArray⟩, .int .i64 0], ?_, rfl, ?_⟩)
    · obtain rfl : D = Y.heap.size := by simpa using h
      exact HK.out
    · exact results_tmp2 Tryd.results27 _ _ _
    · exact ((Holds.of_below hbel).trans2 hh (fun r _ h hr => by
        have : r = Y.heap.size := by simpa using hr
        omega)).below (Nat.le_refl _)
  case stop =>
    rintro j M1 Z h _ _
    exact h.elim
def gapCode (n : Int) : Bool := decide (0 ≤ n) && decide (n ≤ 1000)
theorem gaps_no (n : Int) (h : gapCode n = false) (w : World) :
    Calls Tryd.prog 27 #[.int .i64 n] w fun e w' => e = .returned (.tuple #[.string ⟨#[]⟩, .int .i64 2]) ∧ w = w' := by
  by_cases h1 : n < 0
  · have d1 : decide (n < 0) = true := by simpa using h1
    go_enter Tryd.func27, Tryd.ntmps27
    go_wp2_with fail
    go_ret2
    exact ⟨rfl, rfl⟩
  · have d1 : decide (n < 0) = false := by simpa using h1
    have d2 : decide (1000 < n) = true := by simp [gapCode] at h; simp; omega
    clear h
    go_enter Tryd.func27, Tryd.ntmps27
    go_wp2_with fail
    go_ret2
    exact ⟨rfl, rfl⟩
end Go.Proofs.YtfekggmdhmkemaaDoor
