/- The walk of Complete. -/
import Derived.Test.YtodopdfjjgpdeaaRe
import Derived.Test.YtodopdfjjgpdeaaSg
namespace Go.Proofs.Ytodopdfjjgpdeaa
open Go.RowKit Go.Shelf
set_option linter.unusedVariables false
attribute [local go_sem] Oper.semAt_some

theorem cext_len (d : Nat) : ∀ (fuel : Nat) (pre x : List Int), x ∈ cext d fuel pre → x.length = pre.length + fuel
  | 0, pre, x, h => by simp [cext] at h; rw [h]; rfl
  | fuel + 1, pre, x, h => by
    simp only [cext, List.mem_flatMap] at h
    obtain ⟨s, hs, hx⟩ := h
    split at hx
    · cases hx
    · rw [cext_len d fuel _ x hx]; simp; omega
theorem clrs_len {d : Nat} {start x : List Int} (hl : start.length ≤ d) (h : x ∈ clrs start d) : x.length = d := by
  unfold clrs at h
  split at h
  · rw [cext_len _ _ _ _ h]; omega
  · cases h
/-- Two results in cells. -/
theorem results_2 {P : Program} {fn : Func} {u v : Tmp} {t2 t3 : TypeId} (hr : fn.results = #[.cell u t2, .cell v t3]) (tmps : Array Value) (w : World) (g2 g3 : Nat) (x y : Value)
    (hu : tmps.getD u undef = .pointer (some ⟨g2, 0, none⟩)) (hv : tmps.getD v undef = .pointer (some ⟨g3, 0, none⟩))
    (h2 : w.cell? ⟨g2, 0, none⟩ = some x) (h3 : w.cell? ⟨g3, 0, none⟩ = some y) (a2 : (isAgg t2).run P w = .ok false w) (a3 : (isAgg t3).run P w = .ok false w) : (results fn tmps).run P w = .ok (.tuple #[x, y]) w := by
  have hu' : tmps[u]?.getD undef = .pointer (some ⟨g2, 0, none⟩) := by simpa using hu
  have hv' : tmps[v]?.getD undef = .pointer (some ⟨g3, 0, none⟩) := by simpa using hv
  have e2 : (loadVar t2 ⟨g2, 0, none⟩).run P w = .ok x w := by simp [loadVar, Sem.run_bind, a2, load, Sem.run, h2, Result.andThen]
  have e3 : (loadVar t3 ⟨g3, 0, none⟩).run P w = .ok y w := by simp [loadVar, Sem.run_bind, a3, load, Sem.run, h3, Result.andThen]
  simp [results, hr, hu', hv', asAddr, Sem.run_bind, e2, e3, Result.andThen]
/-- What Complete returns. -/
def ComR (start : List Int) (d : Nat) (e : Ending) (w' : World) : Prop :=
  ((clrs start d)[0]? = none ∧ e = .returned (.tuple #[.slice none 0 0, .int .i64 6])) ∨
  (∃ x b c, (clrs start d)[0]? = some x ∧ x.length = d ∧ e = .returned (.tuple #[.slice (some ⟨b, 0, none⟩) d c, .int .i64 0]) ∧ d ≤ c ∧ RdI w' (.slice (some ⟨b, 0, none⟩) d c) x)
structure ComX (w : World) (start : List Int) (d : Nat) (M : Nat → Prop) (Z : World) (x : List Int) (b c : Nat) : Prop where
  hx : (clrs start d)[0]? = some x
  hl : x.length = d
  h1 : At Z w.heap.size 22 #[.slice (some ⟨b, 0, none⟩) d c]
  h2 : At Z (w.heap.size + 1) 24 #[.int .i64 0]
  hc : d ≤ c
  hd : ∀ j, j < d → Z.cell? ⟨b, j, none⟩ = some (.int .i64 (nth x j))
  hM : M b
  hk : Keeps w Z
set_option maxHeartbeats 4000000 in
set_option maxRecDepth 100000 in
theorem complete_yes (d : Nat) (d1 : 1 ≤ d) (d5 : d ≤ 7) (A : Option Addr) (c : Nat) (start : List Int) (hlen : start.length ≤ d) (hrows : rowsB d start = true) (hcap : start.length ≤ c) (w : World) (hv : RdI w (.slice A start.length c) start) :
    Calls Try.prog 14 #[.slice A start.length c, .int .i64 d] w fun e w' => ComR start d e w' ∧ Keeps w w' := by
  have hall : start.all (hasB d) = true := by have h := hrows; unfold rowsB at h; rw [Bool.and_eq_true] at h; exact h.1
  have hB : cntB d = true := by simp [cntB]; omega
  have hic := fun x => isCounted_c d x
  have har := fun x hx => areRows_c (.slice A start.length c) start d (by omega) x hx
  rw [hB] at hic
  rw [hrows] at har
  clear hB hrows
  refine (callsIn_wide (n := 5)).1 ?_
  refine callsIn_of_wp_marks Try.func14 rfl trivial ?_ rfl
  simp only [Try.ntmps14, List.size_toArray, List.length_cons, List.length_nil, Nat.reduceAdd, Nat.reduceSub, Array.replicate_succ, Array.replicate_zero, List.push_toArray, List.append_toArray, List.nil_append, List.cons_append]
  gi_wp2_with fail
  refine ⟨trivial, (callsIn_wide.2 (hic _)).mono ?_⟩
  rintro e w1 ⟨rfl, rfl⟩
  gi_wp2_with fail
  refine ⟨trivial, (callsIn_wide.2 (har _ (hv.below (Keeps.alloc (Keeps.alloc (Below.refl _ _) _) _)))).mono ?_⟩
  rintro e w1 ⟨rfl, hb1⟩
  have h1 : At w1 w.heap.size 22 #[.slice none 0 0] := ((At.new w _ _).alloc _).later hb1
  have h2 : At w1 (w.heap.size + 1) 24 #[.int .i64 0] := (At.new2 w _ _ _).later hb1
  have hk1 : Keeps w w1 := Keeps.next (Keeps.alloc (Keeps.alloc (Below.refl _ _) _) _) hb1
  have hw1 := h2.lt
  gi_wp2_with fail
  refine ⟨trivial, (callsIn_wide.2 (clearOrders_c A start.length c d _)).mono ?_⟩
  rintro e w2 ⟨rfl, rfl⟩
  gi_wp2_with fail
  obtain ⟨Y, hY⟩ : ∃ Y, (w1.alloc (.cells #[.slice A start.length c] 22)).alloc (.cells #[.int .i64 d] 3) = Y := ⟨_, rfl⟩
  have hYs : Y.heap.size = w1.heap.size + 2 := by rw [← hY]; simp
  have hsY : At Y w1.heap.size 22 #[.slice A start.length c] := by rw [← hY]; exact (At.new w1 _ _).alloc _
  have hdY : At Y (w1.heap.size + 1) 3 #[.int .i64 d] := by rw [← hY]; exact At.new2 w1 _ _ _
  have z1 : At Y w.heap.size 22 #[.slice none 0 0] := by rw [← hY]; exact (h1.alloc _).alloc _
  have z2 : At Y (w.heap.size + 1) 24 #[.int .i64 0] := by rw [← hY]; exact (h2.alloc _).alloc _
  have hkY : Keeps w Y := by rw [← hY]; exact Keeps.alloc (Keeps.alloc hk1 _) _
  rw [hY]
  clear hY hic har hb1 h1 h2
  refine range_mine (clrs start d) (gf := 38) (lb := #[.pointer (some ⟨w1.heap.size + 1, 0, none⟩), .pointer (some ⟨w1.heap.size, 0, none⟩)]) rfl (enters_of Try.func38 (by kernel_rfl) rfl)
    (clr_iter d d1 d5 A c start hlen hall hcap (w1.heap.size + 1) w1.heap.size (fun r => r = w1.heap.size + 1 ∨ r = w1.heap.size ∨ r < w.heap.size) (.inl rfl) (.inr (.inl rfl)) Y (fun r h => by omega) hdY hsY (fun X' hh => hv.below (((Holds.of_below hkY).trans2 hh (fun r _ h => .inr (.inr h))).below (Nat.le_refl _))))
    (fun _ _ => rfl) (fun r h => by omega) (fun B x A A' hh h => h.holds hh (by omega))
    (fun k _ Z => k = 0 ∧ At Z w.heap.size 22 #[.slice none 0 0] ∧ At Z (w.heap.size + 1) 24 #[.int .i64 0] ∧ Keeps w Z)
    (fun _ M Z => ∃ x b cc, ComX w start d M Z x b cc)
    (fun k M Z Z' h hh => ⟨h.1, h.2.1.holds hh (.inl (by omega)), h.2.2.1.holds hh (.inl (by omega)), ((Holds.of_below h.2.2.2).trans2 hh (fun r _ h => .inl (by omega))).below (Nat.le_refl _)⟩)
    (fun k M Z Z' h hh => by
      obtain ⟨x, b, cc, h⟩ := h
      exact ⟨x, b, cc, h.hx, h.hl, h.h1.holds hh (.inl (by omega)), h.h2.holds hh (.inl (by omega)), h.hc, fun j hj => (World.cell?_of_block (hh.block b (block_lt_of_cell (h.hd j hj)) (.inr h.hM))).trans (h.hd j hj), h.hM, ((Holds.of_below h.hk).trans2 hh (fun r _ h => .inl (by omega))).below (Nat.le_refl _)⟩) ⟨rfl, z1, z2, hkY⟩
    (fun x a' _ => a' = { tmps := #[.slice A start.length c, .int .i64 d, undef, undef, .pointer (some ⟨w.heap.size, 0, none⟩), .pointer (some ⟨w.heap.size + 1, 0, none⟩), .slice (some ⟨Y.heap.size + 2 + 1, 0, none⟩) d d, .int .i64 d, .bool true, .bool false, .bool false, .slice A start.length c, .int .i64 d, .bool true, .bool false, .bool false, .slice A start.length c, .int .i64 d, .func (.func 38) #[] #[.pointer (some ⟨w1.heap.size + 1, 0, none⟩), .pointer (some ⟨w1.heap.size, 0, none⟩)],
      .slice (some ⟨Y.heap.size + 2 + 1, 0, none⟩) d d, undef, undef], defers := [] })
    (fun _ _ _ _ _ h => h) ?assign ?body ?done ?stop
  case assign =>
    intro l' j x M1 Z _ _ _ _
    have HYs := Lib.hid hYs
    clear hYs
    gi_wp2
    exact ⟨Holds.refl _ _, by simp⟩
  case body =>
    rintro l' j x M1 a' Z hx ⟨rfl, s1, s2, hbel⟩ hM1 hKin hD rfl hsz
    have hxl := clrs_len hlen (List.mem_of_getElem? hx)
    have Hx := Lib.hid hx
    have Hxl := Lib.hid hxl
    have hrd : RdI Z (.slice (some ⟨Y.heap.size + 2 + 1, 0, none⟩) x.length d) x := RdI_of_at (m := x.length) (c := d) hD (Nat.le_refl _) (by unfold maxLen; omega) |> fun h => by rwa [List.take_length] at h
    rw [hxl] at hrd
    have hcl := clone_c (Y.heap.size + 2 + 1) 0 d x (by omega) (by omega) Z (by rw [hxl]; exact hrd)
    rw [hxl] at hcl
    have HYs := Lib.hid hYs
    clear hYs hx hxl
    gi_wp2_with fail
    refine ⟨trivial, ((callsIn_wide.2 hcl).inRound _).mono ?_⟩
    rintro e w5 ⟨b, cc, rfl, hcc, hcm, hbb, hrd5, hb5⟩
    have t1 := s1.later hb5
    have t2 := s2.later hb5
    have c1 := t1.cell 0
    have c2 := t2.cell 0
    have f1 := t1.frozen 0
    have f2 := t2.frozen 0
    simp only [List.getElem?_toArray, List.getElem?_cons_zero] at c1 c2
    have hZ := s2.lt
    have h5 := hb5.size
    have hcells : ∀ j, j < d → w5.cell? ⟨b, j, none⟩ = some (.int .i64 (nth x j)) := by
      intro j hj
      obtain ⟨_, _, e1, -, e2⟩ := hrd5
      cases e1
      obtain ⟨_, _, u, e3, e4, rfl⟩ := e2 j (by omega)
      cases e3
      rwa [Nat.zero_add] at e4
    have hblt := block_lt_of_cell (hcells 0 (by omega))
    have Hcells := Lib.hid hcells
    clear hcells hrd5 hcl hrd
    gi_wp2_with fail
    have hYs := HYs.out
    have hh' : Holds (fun r => r ≠ w.heap.size ∧ r ≠ w.heap.size + 1) w5 ((w5.setCell ⟨w.heap.size, 0, none⟩ (.slice (some ⟨b, 0, none⟩) d cc)).setCell ⟨w.heap.size + 1, 0, none⟩ (.int .i64 0)) := ((Holds.refl _ _).set _ (by simp) _).set _ (by simp) _
    refine ⟨fun r => M1 r ∨ r = b, ?_, ?_, ?_, x, b, cc, Hx.out, Hxl.out, ?_, ?_, hcc, ?_, .inr rfl, ?_⟩
    · intro r hr
      have := hh'.size
      rcases hr with hr | rfl
      · have := (hM1 r hr).2; omega
      · exact Nat.lt_of_lt_of_le hblt hh'.size
    · rintro r (hr | rfl)
      · exact .inl hr
      · exact .inr hbb
    · exact ((Holds.of_keeps hb5 _).set _ (by simp; omega) _).set _ (by simp; omega) _
    · exact (t1.set 0 _).far (by simp) _
    · exact (t2.far (by simp) _).set 0 _
    · intro j hj
      exact (World.cell?_of_block (hh'.block b hblt ⟨by omega, by omega⟩)).trans (Hcells.out j hj)
    · exact ((Keeps.next hbel hb5).setCell (by simp) _).setCell (by simp) _
  case done =>
    rintro M1 Z ⟨h0, s1, s2, hbel⟩ hK hM1
    have c1 := s1.cell 0
    have c2 := s2.cell 0
    have f1 := s1.frozen 0
    have f2 := s2.frozen 0
    simp only [List.getElem?_toArray, List.getElem?_cons_zero] at c1 c2
    have HYs := Lib.hid hYs
    have HK := Lib.hid hK
    have H0 := Lib.hid h0
    clear hYs hK h0
    gi_wp2_with fail
    have hYs := HYs.out
    have hfin : Holds (fun r => r = Y.heap.size) Z ((Z.setCell ⟨w.heap.size, 0, none⟩ (.slice none 0 0)).setCell ⟨w.heap.size + 1, 0, none⟩ (.int .i64 6)) := ((Holds.refl _ _).set _ (by simp; omega) _).set _ (by simp; omega) _
    refine ⟨by simp, .inl ⟨_, _, rfl, run_takeDeferred ((hfin.block _ (Array.getElem?_eq_some_iff.1 HK.out).1 rfl).trans HK.out), ?_⟩⟩
    have y1 := ((s1.set 0 (.slice none 0 0)).far (p := ⟨w.heap.size + 1, 0, none⟩) (by simp) (.int .i64 6))
    have y2 := ((s2.far (p := ⟨w.heap.size, 0, none⟩) (by simp) (.slice none 0 0)).set 0 (.int .i64 6))
    have hk4 : Keeps w ((Z.setCell ⟨w.heap.size, 0, none⟩ (.slice none 0 0)).setCell ⟨w.heap.size + 1, 0, none⟩ (.int .i64 6)) := (hbel.setCell (by simp) _).setCell (by simp) _
    generalize (Z.setCell ⟨w.heap.size, 0, none⟩ (.slice none 0 0)).setCell ⟨w.heap.size + 1, 0, none⟩ (.int .i64 6) = X at *
    have hfp : Holds (fun r => r ≠ Y.heap.size) X (X.putObj Y.heap.size (.deferred none)) := (Holds.refl _ _).put _ (by simp) _
    have x1 := (y1.holds hfp (by omega)).cell 0
    have x2 := (y2.holds hfp (by omega)).cell 0
    exact ⟨_, results_2 Try.results14 _ _ w.heap.size (w.heap.size + 1) _ _ rfl rfl x1 x2 (Try.isAgg22 _) (Try.isAgg24 _), .inl ⟨List.getElem?_eq_none (by have := H0.out; omega), rfl⟩, ((Holds.of_below hk4).trans2 hfp (fun r _ h => by omega)).below (Nat.le_refl _)⟩
  case stop =>
    rintro k M1 Z ⟨x, b, cc, hC⟩ hK hM1
    have HYs := Lib.hid hYs
    have HK := Lib.hid hK
    clear hYs hK
    gi_wp2_with fail
    have hYs := HYs.out
    refine ⟨by simp, .inl ⟨_, _, rfl, run_takeDeferred HK.out, ?_⟩⟩
    have hfp : Holds (fun r => r ≠ Y.heap.size) Z (Z.putObj Y.heap.size (.deferred none)) := (Holds.refl _ _).put _ (by simp) _
    have x1 := (hC.h1.holds hfp (by omega)).cell 0
    have x2 := (hC.h2.holds hfp (by omega)).cell 0
    have hbY := (hM1 b hC.hM).1
    refine ⟨_, results_2 Try.results14 _ _ w.heap.size (w.heap.size + 1) _ _ rfl rfl x1 x2 (Try.isAgg22 _) (Try.isAgg24 _), .inr ⟨x, b, cc, hC.hx, hC.hl, rfl, hC.hc, _, cc, by rw [hC.hl], ?_, fun j hj => ⟨b, 0, _, rfl, ?_, rfl⟩⟩, ((Holds.of_below hC.hk).trans2 hfp (fun r _ h => by omega)).below (Nat.le_refl _)⟩
    · have := hC.hl; unfold maxLen; omega
    · rw [Nat.zero_add]
      exact (World.cell?_of_block (hfp.block b (block_lt_of_cell (hC.hd j (by have := hC.hl; omega))) (by omega))).trans (hC.hd j (by have := hC.hl; omega))
end Go.Proofs.Ytodopdfjjgpdeaa
