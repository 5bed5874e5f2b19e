/- The walk of Item. -/
import Derived.Test.YtdlnmmhdgjjcfaaVj
import Derived.Test.YtdlnmmhdgjjcfaaWa
namespace Go.Proofs.Ytdlnmmhdgjjcfaa
open Go.RowKit Go.Shelf
set_option linter.unusedVariables false
set_option linter.unusedSimpArgs false
attribute [local go_sem] Oper.semAt_some

/-- What Item returns. -/
def ItR (k : Int) (d : Nat) (e : Ending) (w' : World) : Prop :=
  (¬ (0 ≤ k ∧ k < (clrs [] d).length) ∧ e = .returned (.tuple #[.slice none 0 0, .int .i64 2])) ∨
  (∃ x b c, 0 ≤ k ∧ (clrs [] d)[k.toNat]? = some x ∧ x.length = d ∧ e = .returned (.tuple #[.slice (some ⟨b, 0, none⟩) d c, .int .i64 0]) ∧ d ≤ c ∧ RdI w' (.slice (some ⟨b, 0, none⟩) d c) x)
structure ItX (w : World) (k : Int) (d : Nat) (M : Nat → Prop) (Z : World) (x : List Int) (b c : Nat) : Prop where
  h0 : 0 ≤ k
  hx : (clrs [] d)[k.toNat]? = some x
  hl : x.length = d
  h1 : At Z (w.heap.size + 1) 22 #[.slice (some ⟨b, 0, none⟩) d c]
  h2 : At Z (w.heap.size + 1 + 1) 24 #[.int .i64 0]
  hc : d ≤ c
  hd : ∀ j, j < d → Z.cell? ⟨b, j, none⟩ = some (.int .i64 (nth x j))
  hM : M b
  hk : Keeps w Z
set_option maxHeartbeats 4000000 in
set_option maxRecDepth 100000 in
theorem item_yes (d : Nat) (d1 : 1 ≤ d) (d5 : d ≤ 7) (k : Int) (w : World) :
    Calls Try.prog 17 #[.int .i64 d, .int .i64 k] w fun e w' => ItR k d e w' ∧ Keeps w w' := by
  have hlen := clrs_length [] d d5
  have hB : cntB d = true := by simp [cntB]; omega
  have hic := fun x => isCounted_c d x
  rw [hB] at hic
  clear hB
  refine (callsIn_wide (n := 5)).1 ?_
  refine callsIn_of_wp_marks Try.func17 rfl trivial ?_ rfl
  simp only [Try.ntmps17, List.size_toArray, List.length_cons, List.length_nil, Nat.reduceAdd, Nat.reduceSub, Array.replicate_succ, Array.replicate_zero, List.push_toArray, List.append_toArray, List.nil_append, List.cons_append]
  gi_wp2_with fail
  refine ⟨trivial, (callsIn_wide.2 (hic _)).mono ?_⟩
  rintro e w1 ⟨rfl, rfl⟩
  gi_wp2_with fail
  refine ⟨trivial, (callsIn_wide.2 (clearOrders_c none 0 0 d _)).mono ?_⟩
  rintro e w2 ⟨rfl, rfl⟩
  gi_wp2_with fail
  obtain ⟨Y, hY⟩ : ∃ Y, (((((w.alloc (.cells #[.int .i64 k] 3)).alloc (.cells #[.slice none 0 0] 22)).alloc (.cells #[.int .i64 0] 24)).alloc (.cells #[.int .i64 0] 3)).alloc (.cells #[.slice none 0 0] 22)).alloc (.cells #[.int .i64 d] 3) = Y := ⟨_, rfl⟩
  have hYs : Y.heap.size = w.heap.size + 6 := by rw [← hY]; simp
  have z0 : At Y w.heap.size 3 #[.int .i64 k] := by rw [← hY]; exact (((((At.new w _ _).alloc _).alloc _).alloc _).alloc _).alloc _
  have z1 : At Y (w.heap.size + 1) 22 #[.slice none 0 0] := by rw [← hY]; exact ((((At.new2 w _ _ _).alloc _).alloc _).alloc _).alloc _
  have z2 : At Y (w.heap.size + 1 + 1) 24 #[.int .i64 0] := by rw [← hY]; exact (((At.new' _ _ (by simp <;> omega) _ _).alloc _).alloc _).alloc _
  have z3 : At Y (w.heap.size + 1 + 1 + 1) 3 #[.int .i64 0] := by rw [← hY]; exact ((At.new' _ _ (by simp <;> omega) _ _).alloc _).alloc _
  have hsY : At Y (w.heap.size + 1 + 1 + 1 + 1) 22 #[.slice none 0 0] := by rw [← hY]; exact (At.new' _ _ (by simp <;> omega) _ _).alloc _
  have hdY : At Y (w.heap.size + 1 + 1 + 1 + 1 + 1) 3 #[.int .i64 d] := by rw [← hY]; exact At.new' _ _ (by simp <;> omega) _ _
  have hkY : Keeps w Y := by rw [← hY]; exact Keeps.alloc (Keeps.alloc (Keeps.alloc (Keeps.alloc (Keeps.alloc (Keeps.alloc (Below.refl _ _) _) _) _) _) _) _
  rw [hY]
  clear hY hic
  refine range_mine (clrs [] d) (gf := 33) (lb := #[.pointer (some ⟨w.heap.size + 1 + 1 + 1 + 1 + 1, 0, none⟩), .pointer (some ⟨w.heap.size + 1 + 1 + 1 + 1, 0, none⟩)]) rfl (enters_of Try.func33 (by kernel_rfl) rfl)
    (clr_iter d d1 d5 none 0 [] (Nat.zero_le _) rfl (Nat.le_refl _) (w.heap.size + 1 + 1 + 1 + 1 + 1) (w.heap.size + 1 + 1 + 1 + 1) (fun r => r = w.heap.size + 1 + 1 + 1 + 1 + 1 ∨ r = w.heap.size + 1 + 1 + 1 + 1) (.inl rfl) (.inr rfl) Y (fun r h => by omega) hdY hsY (fun X' _ => nil_rd X'))
    (fun _ _ => rfl) (fun r h => by omega) (fun B x A A' hh h => h.holds hh (by omega))
    (fun q _ Z => (0 ≤ k → (q : Int) ≤ k) ∧ At Z w.heap.size 3 #[.int .i64 k] ∧ At Z (w.heap.size + 1) 22 #[.slice none 0 0] ∧ At Z (w.heap.size + 1 + 1) 24 #[.int .i64 0] ∧ At Z (w.heap.size + 1 + 1 + 1) 3 #[.int .i64 q] ∧ Keeps w Z)
    (fun _ M Z => ∃ x b cc, ItX w k d M Z x b cc)
    (fun q M Z Z' h hh => ⟨h.1, h.2.1.holds hh (.inl (by omega)), h.2.2.1.holds hh (.inl (by omega)), h.2.2.2.1.holds hh (.inl (by omega)), h.2.2.2.2.1.holds hh (.inl (by omega)), ((Holds.of_below h.2.2.2.2.2).trans2 hh (fun r _ h => .inl (by omega))).below (Nat.le_refl _)⟩)
    (fun q M Z Z' h hh => by
      obtain ⟨x, b, cc, h⟩ := h
      exact ⟨x, b, cc, h.h0, h.hx, h.hl, h.h1.holds hh (.inl (by omega)), h.h2.holds hh (.inl (by omega)), h.hc, fun j hj => (World.cell?_of_block (hh.block b (block_lt_of_cell (h.hd j hj)) (.inr h.hM))).trans (h.hd j hj), h.hM, ((Holds.of_below h.hk).trans2 hh (fun r _ h => .inl (by omega))).below (Nat.le_refl _)⟩) ⟨fun h => h, z0, z1, z2, z3, hkY⟩
    (fun x a' _ => a' = { tmps := #[.int .i64 d, .int .i64 k, undef, .pointer (some ⟨w.heap.size, 0, none⟩), .pointer (some ⟨w.heap.size + 1, 0, none⟩), .pointer (some ⟨w.heap.size + 1 + 1, 0, none⟩), .pointer (some ⟨w.heap.size + 1 + 1 + 1, 0, none⟩), .slice (some ⟨Y.heap.size + 2 + 1, 0, none⟩) d d, .int .i64 d, .bool true, .bool false, .int .i64 d, .func (.func 33) #[] #[.pointer (some ⟨w.heap.size + 1 + 1 + 1 + 1 + 1, 0, none⟩), .pointer (some ⟨w.heap.size + 1 + 1 + 1 + 1, 0, none⟩)],
      .slice (some ⟨Y.heap.size + 2 + 1, 0, none⟩) d d, undef, undef, undef, undef, undef, undef, undef], defers := [] })
    (fun _ _ _ _ _ h => h) ?assign ?body ?done ?stop
  case assign =>
    intro l' j x M1 Z _ _ _ _
    have HYs := Lib.hid hYs
    clear hYs
    gi_wp2
    exact ⟨Holds.refl _ _, by simp⟩
  case body =>
    rintro l' q x M1 a' Z hx ⟨hq, s0, s1, s2, s3, hbel⟩ hM1 hKin hD rfl hsz
    have hj := (List.getElem?_eq_some_iff.1 hx).1
    have hxl := clrs_len (Nat.zero_le _) (List.mem_of_getElem? hx)
    have c0 := s0.cell 0
    have c3 := s3.cell 0
    have f3 := s3.frozen 0
    simp only [List.getElem?_toArray, List.getElem?_cons_zero] at c0 c3
    by_cases he : (q : Int) = k
    · have heq : ((q : Int) == k) = true := by simp [he]
      have Hx := Lib.hid hx
      have Hxl := Lib.hid hxl
      have hrd : RdI Z (.slice (some ⟨Y.heap.size + 2 + 1, 0, none⟩) x.length d) x := RdI_of_at (m := x.length) (c := d) hD (Nat.le_refl _) (by unfold maxLen; omega) |> fun h => by rwa [List.take_length] at h
      rw [hxl] at hrd
      have hcl := clone_c (Y.heap.size + 2 + 1) 0 d x (by omega) (by omega) Z (by rw [hxl]; exact hrd)
      rw [hxl] at hcl
      have HYs := Lib.hid hYs
      have He := Lib.hid he
      clear hYs hx hxl he hq hj
      gi_wp2_with fail
      refine ⟨trivial, ((callsIn_wide.2 hcl).inRound _).mono ?_⟩
      rintro e w5 ⟨b, cc, rfl, hcc, hcm, hbb, hrd5, hb5⟩
      have t1 := s1.later hb5
      have t2 := s2.later hb5
      have c1 := t1.cell 0
      have c2 := t2.cell 0
      have f1 := t1.frozen 0
      have f2 := t2.frozen 0
      simp only [List.getElem?_toArray, List.getElem?_cons_zero] at c1 c2
      have hZ := s3.lt
      have h5 := hb5.size
      have hcells : ∀ j, j < d → w5.cell? ⟨b, j, none⟩ = some (.int .i64 (nth x j)) := by
        intro j hj
        obtain ⟨_, _, e1, -, e2⟩ := hrd5
        cases e1
        obtain ⟨_, _, u, e3, e4, rfl⟩ := e2 j (by rw [Hxl.out]; exact hj)
        cases e3
        rwa [Nat.zero_add] at e4
      have hblt := block_lt_of_cell (hcells 0 (by omega))
      have Hcells := Lib.hid hcells
      clear hcells hrd5 hcl hrd c0 c3 f3
      gi_wp2_with fail
      have hYs := HYs.out
      have hh' : Holds (fun r => r ≠ w.heap.size + 1 ∧ r ≠ w.heap.size + 1 + 1) w5 ((w5.setCell ⟨w.heap.size + 1, 0, none⟩ (.slice (some ⟨b, 0, none⟩) d cc)).setCell ⟨w.heap.size + 1 + 1, 0, none⟩ (.int .i64 0)) := ((Holds.refl _ _).set _ (by simp <;> omega) _).set _ (by simp <;> omega) _
      refine ⟨fun r => M1 r ∨ r = b, ?_, ?_, ?_, x, b, cc, ?_, ?_, Hxl.out, ?_, ?_, hcc, ?_, .inr rfl, ?_⟩
      · intro r hr
        have := hh'.size
        rcases hr with hr | rfl
        · have := (hM1 r hr).2; omega
        · exact Nat.lt_of_lt_of_le hblt hh'.size
      · rintro r (hr | rfl)
        · exact .inl hr
        · exact .inr hbb
      · exact ((Holds.of_keeps hb5 _).set _ (by simp <;> omega) _).set _ (by simp <;> omega) _
      · have := He.out; omega
      · have := He.out; rw [← this, Int.toNat_natCast]; exact Hx.out
      · exact (t1.set 0 _).far (by simp <;> omega) _
      · exact (t2.far (by simp <;> omega) _).set 0 _
      · intro j hj
        exact (World.cell?_of_block (hh'.block b hblt ⟨by omega, by omega⟩)).trans (Hcells.out j hj)
      · exact ((Keeps.next hbel hb5).setCell (by simp <;> omega) _).setCell (by simp <;> omega) _
    · have heq : ((q : Int) == k) = false := by simpa using he
      have HYs := Lib.hid hYs
      have He := Lib.hid he
      have Hq := Lib.hid hq
      clear hYs hx hxl he hq
      gi_wp2_with fail
      have hYs := HYs.out
      refine ⟨M1, fun r hr => Nat.lt_of_lt_of_le (hM1 r hr).2 (by simp [World.setCell]), fun r h => .inl h, (Holds.refl _ Z).set _ (by simp <;> omega) _, ?_, s0.far (by simp <;> omega) _, s1.far (by simp <;> omega) _, s2.far (by simp <;> omega) _, ?_, hbel.setCell (by simp <;> omega) _⟩
      · intro h
        have := Hq.out h
        have := He.out
        omega
      · have := s3.set 0 (.int .i64 (q + 1))
        exact this
  case done =>
    rintro M1 Z ⟨hq, s0, s1, s2, s3, hbel⟩ hK hM1
    have c1 := s1.cell 0
    have c2 := s2.cell 0
    have f1 := s1.frozen 0
    have f2 := s2.frozen 0
    simp only [List.getElem?_toArray, List.getElem?_cons_zero] at c1 c2
    have HYs := Lib.hid hYs
    have HK := Lib.hid hK
    have Hq := Lib.hid hq
    clear hYs hK hq
    gi_wp2_with fail
    have hYs := HYs.out
    have hfin : Holds (fun r => r = Y.heap.size) Z ((Z.setCell ⟨w.heap.size + 1, 0, none⟩ (.slice none 0 0)).setCell ⟨w.heap.size + 1 + 1, 0, none⟩ (.int .i64 2)) := ((Holds.refl _ _).set _ (by simp <;> omega) _).set _ (by simp <;> omega) _
    refine ⟨by simp, .inl ⟨_, _, rfl, run_takeDeferred ((hfin.block _ (Array.getElem?_eq_some_iff.1 HK.out).1 rfl).trans HK.out), ?_⟩⟩
    have y1 := ((s1.set 0 (.slice none 0 0)).far (p := ⟨w.heap.size + 1 + 1, 0, none⟩) (by simp) (.int .i64 2))
    have y2 := ((s2.far (p := ⟨w.heap.size + 1, 0, none⟩) (by simp) (.slice none 0 0)).set 0 (.int .i64 2))
    have hk4 : Keeps w ((Z.setCell ⟨w.heap.size + 1, 0, none⟩ (.slice none 0 0)).setCell ⟨w.heap.size + 1 + 1, 0, none⟩ (.int .i64 2)) := (hbel.setCell (by simp <;> omega) _).setCell (by simp <;> omega) _
    generalize (Z.setCell ⟨w.heap.size + 1, 0, none⟩ (.slice none 0 0)).setCell ⟨w.heap.size + 1 + 1, 0, none⟩ (.int .i64 2) = X at *
    have hfp : Holds (fun r => r ≠ Y.heap.size) X (X.putObj Y.heap.size (.deferred none)) := (Holds.refl _ _).put _ (by simp <;> omega) _
    have x1 := (y1.holds hfp (by omega)).cell 0
    have x2 := (y2.holds hfp (by omega)).cell 0
    exact ⟨_, results_2 Try.results17 _ _ (w.heap.size + 1) (w.heap.size + 1 + 1) _ _ rfl rfl x1 x2 (Try.isAgg22 _) (Try.isAgg24 _), .inl ⟨fun h => by have := Hq.out h.1; omega, rfl⟩, ((Holds.of_below hk4).trans2 hfp (fun r _ h => by omega)).below (Nat.le_refl _)⟩
  case stop =>
    rintro q M1 Z ⟨x, b, cc, hC⟩ hK hM1
    have HYs := Lib.hid hYs
    have HK := Lib.hid hK
    clear hYs hK
    gi_wp2_with fail
    have hYs := HYs.out
    refine ⟨by simp, .inl ⟨_, _, rfl, run_takeDeferred HK.out, ?_⟩⟩
    have hfp : Holds (fun r => r ≠ Y.heap.size) Z (Z.putObj Y.heap.size (.deferred none)) := (Holds.refl _ _).put _ (by simp <;> omega) _
    have x1 := (hC.h1.holds hfp (by omega)).cell 0
    have x2 := (hC.h2.holds hfp (by omega)).cell 0
    have hbY := (hM1 b hC.hM).1
    refine ⟨_, results_2 Try.results17 _ _ (w.heap.size + 1) (w.heap.size + 1 + 1) _ _ rfl rfl x1 x2 (Try.isAgg22 _) (Try.isAgg24 _), .inr ⟨x, b, cc, hC.h0, hC.hx, hC.hl, rfl, hC.hc, _, cc, by rw [hC.hl], ?_, fun j hj => ⟨b, 0, _, rfl, ?_, rfl⟩⟩, ((Holds.of_below hC.hk).trans2 hfp (fun r _ h => by omega)).below (Nat.le_refl _)⟩
    · have := hC.hl; unfold maxLen; omega
    · rw [Nat.zero_add]
      exact (World.cell?_of_block (hfp.block b (block_lt_of_cell (hC.hd j (by have := hC.hl; omega))) (by omega))).trans (hC.hd j (by have := hC.hl; omega))
set_option maxHeartbeats 1000000 in
theorem item_no (n k : Int) (h : cntB n = false) (w : World) :
    Calls Try.prog 17 #[.int .i64 n, .int .i64 k] w fun e w' => e = .returned (.tuple #[.slice none 0 0, .int .i64 2]) ∧ Keeps w w' := by
  have hic := fun x => isCounted_c n x
  rw [h] at hic
  clear h
  go_enter Try.func17, Try.ntmps17
  go_wp2_with (go_at_call 22; refine (hic _).mono ?_; rintro e w1 ⟨rfl, rfl⟩)
  obtain ⟨W, hW⟩ : ∃ W, ((w.alloc (.cells #[.int .i64 k] 3)).alloc (.cells #[.slice none 0 0] 22)).alloc (.cells #[.int .i64 2] 24) = W := ⟨_, rfl⟩
  have z1 : At W (w.heap.size + 1) 22 #[.slice none 0 0] := by rw [← hW]; exact (At.new2 w _ _ _).alloc _
  have z2 : At W (w.heap.size + 1 + 1) 24 #[.int .i64 2] := by rw [← hW]; exact At.new' _ _ (by simp) _ _
  have hk : Keeps w W := by rw [← hW]; exact Keeps.alloc (Keeps.alloc (Keeps.alloc (Below.refl _ _) _) _) _
  rw [hW]
  refine bodyPost_ret (v := .tuple #[.slice none 0 0, .int .i64 2]) (results_2 Try.results17 _ _ (w.heap.size + 1) (w.heap.size + 1 + 1) _ _ rfl rfl (z1.cell 0) (z2.cell 0) (Try.isAgg22 _) (Try.isAgg24 _)) rfl ?_
  exact ⟨rfl, hk⟩
end Go.Proofs.Ytdlnmmhdgjjcfaa
