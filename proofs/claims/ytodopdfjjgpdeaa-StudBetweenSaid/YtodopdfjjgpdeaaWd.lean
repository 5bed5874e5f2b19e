/- The walk of Next. -/
import Derived.Test.YtodopdfjjgpdeaaWc
import Derived.Test.YtodopdfjjgpdeaaWb
namespace Go.Proofs.Ytodopdfjjgpdeaa
open Go.RowKit Go.Shelf
set_option linter.unusedVariables false
set_option linter.unusedSimpArgs false
attribute [local go_sem] Oper.semAt_some

theorem cmpL_in : ∀ (a b : List Int), cmpL a b = -1 ∨ cmpL a b = 0 ∨ cmpL a b = 1
  | [], [] => .inr (.inl rfl)
  | [], _ :: _ => .inl rfl
  | _ :: _, [] => .inr (.inr rfl)
  | a :: x, b :: y => by
    unfold cmpL
    by_cases h : a < b
    · rw [if_pos h]; exact .inl rfl
    · by_cases h2 : b < a
      · rw [if_neg h, if_pos h2]; exact .inr (.inr rfl)
      · rw [if_neg h, if_neg h2]; exact cmpL_in x y
theorem cmpL_gt (x l : List Int) : decide (0 < cmpL x l) = lowB l x := by
  unfold lowB
  have h := cmpL_swap x l
  rcases cmpL_in x l with e | e | e <;> rw [h, e] <;> rfl
theorem find_atq {α : Type} {p : α → Bool} : ∀ {xs : List α} {q : Nat} {x : α}, xs[q]? = some x → p x = true → (∀ j y, j < q → xs[j]? = some y → p y = false) → xs.find? p = some x
  | [], _, _, h, _, _ => by simp at h
  | a :: xs, 0, x, h, hp, _ => by
    obtain rfl : a = x := by simpa using h
    rw [List.find?_cons, hp]
  | a :: xs, q + 1, x, h, hp, hn => by
    rw [List.find?_cons, hn 0 a (by omega) rfl]
    exact find_atq (q := q) (by simpa using h) hp fun j y hj hy => hn (j + 1) y (by omega) (by simpa using hy)
theorem find_non {α : Type} {p : α → Bool} {xs : List α} (hn : ∀ j y, j < xs.length → xs[j]? = some y → p y = false) : xs.find? p = none := by
  rw [List.find?_eq_none]
  intro x hx
  obtain ⟨i, hi, rfl⟩ := List.getElem_of_mem hx
  rw [hn i _ hi (List.getElem?_eq_getElem hi)]
  simp
/-- What Next returns. -/
def NxR (l : List Int) (d : Nat) (e : Ending) (w' : World) : Prop :=
  ((clrs [] d).find? (lowB l) = none ∧ e = .returned (.tuple #[.slice none 0 0, .int .i64 6])) ∨
  (∃ x b c, (clrs [] d).find? (lowB l) = some x ∧ x.length = d ∧ e = .returned (.tuple #[.slice (some ⟨b, 0, none⟩) d c, .int .i64 0]) ∧ d ≤ c ∧ RdI w' (.slice (some ⟨b, 0, none⟩) d c) x)
structure NxX (w : World) (l : List Int) (d : Nat) (M : Nat → Prop) (Z : World) (x : List Int) (b c : Nat) : Prop where
  hx : (clrs [] d).find? (lowB l) = some x
  hl : x.length = d
  h1 : At Z (w.heap.size + 1) 22 #[.slice (some ⟨b, 0, none⟩) d c]
  h2 : At Z (w.heap.size + 1 + 1) 24 #[.int .i64 0]
  hc : d ≤ c
  hd : ∀ j, j < d → Z.cell? ⟨b, j, none⟩ = some (.int .i64 (nth x j))
  hM : M b
  hk : Keeps w Z
set_option maxHeartbeats 4000000 in
set_option maxRecDepth 100000 in
theorem next_yes (d : Nat) (d5 : d ≤ 7) (A : Option Addr) (c : Nat) (l : List Int) (hll : l.length = d) (ho : ordB l = true) (w : World) (hv : RdI w (.slice A d c) l) :
    Calls Try.prog 8 #[.slice A d c] w fun e w' => NxR l d e w' ∧ Keeps w w' := by
  have d1 : 1 ≤ d := by have := (ordB_parts l ho).1; omega
  have hlen := clrs_length [] d d5
  have hB : cntB d = true := by simp [cntB]; omega
  have hic := fun x => isCounted_c d x
  have hio := fun x hx => isOrder_c (.slice A d c) l x hx
  rw [hB] at hic
  rw [ho] at hio
  clear hB ho
  refine (callsIn_wide (n := 5)).1 ?_
  refine callsIn_of_wp_marks Try.func8 rfl trivial ?_ rfl
  simp only [Try.ntmps8, List.size_toArray, List.length_cons, List.length_nil, Nat.reduceAdd, Nat.reduceSub, Array.replicate_succ, Array.replicate_zero, List.push_toArray, List.append_toArray, List.nil_append, List.cons_append]
  gi_wp2_with fail
  refine ⟨trivial, (callsIn_wide.2 (hio _ (hv.below (Keeps.alloc (Keeps.alloc (Keeps.alloc (Below.refl _ _) _) _) _)))).mono ?_⟩
  rintro e w1 ⟨rfl, hb1⟩
  have z0' : At w1 w.heap.size 22 #[.slice A d c] := (((At.new w _ _).alloc _).alloc _).later hb1
  have z1' : At w1 (w.heap.size + 1) 22 #[.slice none 0 0] := ((At.new2 w _ _ _).alloc _).later hb1
  have z2' : At w1 (w.heap.size + 1 + 1) 24 #[.int .i64 0] := (At.new' _ _ (by simp) _ _).later hb1
  have hk1 : Keeps w w1 := Keeps.next (Keeps.alloc (Keeps.alloc (Keeps.alloc (Below.refl _ _) _) _) _) hb1
  have hw1 := z2'.lt
  have c0 := z0'.cell 0
  simp only [List.getElem?_toArray, List.getElem?_cons_zero] at c0
  gi_wp2_with fail
  refine ⟨trivial, (callsIn_wide.2 (hic _)).mono ?_⟩
  rintro e w2 ⟨rfl, rfl⟩
  gi_wp2_with fail
  refine ⟨trivial, (callsIn_wide.2 (clearOrders_c none 0 0 d _)).mono ?_⟩
  rintro e w2 ⟨rfl, rfl⟩
  gi_wp2_with fail
  obtain ⟨Y, hY⟩ : ∃ Y, (w1.alloc (.cells #[.slice none 0 0] 22)).alloc (.cells #[.int .i64 d] 3) = Y := ⟨_, rfl⟩
  have hYs : Y.heap.size = w1.heap.size + 2 := by rw [← hY]; simp
  have z0 : At Y w.heap.size 22 #[.slice A d c] := by rw [← hY]; exact (z0'.alloc _).alloc _
  have z1 : At Y (w.heap.size + 1) 22 #[.slice none 0 0] := by rw [← hY]; exact (z1'.alloc _).alloc _
  have z2 : At Y (w.heap.size + 1 + 1) 24 #[.int .i64 0] := by rw [← hY]; exact (z2'.alloc _).alloc _
  have hsY : At Y w1.heap.size 22 #[.slice none 0 0] := by rw [← hY]; exact (At.new w1 _ _).alloc _
  have hdY : At Y (w1.heap.size + 1) 3 #[.int .i64 d] := by rw [← hY]; exact At.new2 w1 _ _ _
  have hkY : Keeps w Y := by rw [← hY]; exact Keeps.alloc (Keeps.alloc hk1 _) _
  rw [hY]
  clear hY hic hio c0 hb1 z0' z1' z2'
  refine range_mine (clrs [] d) (gf := 38) (lb := #[.pointer (some ⟨w1.heap.size + 1, 0, none⟩), .pointer (some ⟨w1.heap.size, 0, none⟩)]) rfl (enters_of Try.func38 (by kernel_rfl) rfl)
    (clr_iter d d1 d5 none 0 [] (Nat.zero_le _) rfl (Nat.le_refl _) (w1.heap.size + 1) w1.heap.size (fun r => r = w1.heap.size + 1 ∨ r = w1.heap.size) (.inl rfl) (.inr rfl) Y (fun r h => by omega) hdY hsY (fun X' _ => nil_rd X'))
    (fun _ _ => rfl) (fun r h => by omega) (fun B x A A' hh h => h.holds hh (by omega))
    (fun q _ Z => (∀ j y, j < q → (clrs [] d)[j]? = some y → lowB l y = false) ∧ At Z w.heap.size 22 #[.slice A d c] ∧ At Z (w.heap.size + 1) 22 #[.slice none 0 0] ∧ At Z (w.heap.size + 1 + 1) 24 #[.int .i64 0] ∧ Keeps w Z)
    (fun _ M Z => ∃ x b cc, NxX w l d M Z x b cc)
    (fun q M Z Z' h hh => ⟨h.1, h.2.1.holds hh (.inl (by omega)), h.2.2.1.holds hh (.inl (by omega)), h.2.2.2.1.holds hh (.inl (by omega)), ((Holds.of_below h.2.2.2.2).trans2 hh (fun r _ h => .inl (by omega))).below (Nat.le_refl _)⟩)
    (fun q M Z Z' h hh => by
      obtain ⟨x, b, cc, h⟩ := h
      exact ⟨x, b, cc, h.hx, h.hl, h.h1.holds hh (.inl (by omega)), h.h2.holds hh (.inl (by omega)), h.hc, fun j hj => (World.cell?_of_block (hh.block b (block_lt_of_cell (h.hd j hj)) (.inr h.hM))).trans (h.hd j hj), h.hM, ((Holds.of_below h.hk).trans2 hh (fun r _ h => .inl (by omega))).below (Nat.le_refl _)⟩) ⟨fun j y h => by omega, z0, z1, z2, hkY⟩
    (fun x a' _ => a' = { tmps := #[.slice A d c, .pointer (some ⟨w.heap.size, 0, none⟩), .pointer (some ⟨w.heap.size + 1, 0, none⟩), .pointer (some ⟨w.heap.size + 1 + 1, 0, none⟩), .slice (some ⟨Y.heap.size + 2 + 1, 0, none⟩) d d, .slice A d c, .bool true, .bool false, .bool false, .slice A d c, .int .i64 d, .bool true, .bool false, .bool false, .slice A d c, .int .i64 d, .func (.func 38) #[] #[.pointer (some ⟨w1.heap.size + 1, 0, none⟩), .pointer (some ⟨w1.heap.size, 0, none⟩)],
      .slice (some ⟨Y.heap.size + 2 + 1, 0, none⟩) d d, undef, undef, undef, undef, undef, undef], defers := [] })
    (fun _ _ _ _ _ h => h) ?assign ?body ?done ?stop
  case assign =>
    intro l' j x M1 Z _ _ _ _
    have HYs := Lib.hid hYs
    clear hYs
    gi_wp2
    exact ⟨Holds.refl _ _, by simp⟩
  case body =>
    rintro l' q x M1 a' Z hx ⟨hq, s0, s1, s2, hbel⟩ hM1 hKin hD rfl hsz
    have hj := (List.getElem?_eq_some_iff.1 hx).1
    have hxl := clrs_len (Nat.zero_le _) (List.mem_of_getElem? hx)
    have c0 := s0.cell 0
    simp only [List.getElem?_toArray, List.getElem?_cons_zero] at c0
    have hrd : RdI Z (.slice (some ⟨Y.heap.size + 2 + 1, 0, none⟩) x.length d) x := RdI_of_at (m := x.length) (c := d) hD (Nat.le_refl _) (by unfold maxLen; omega) |> fun h => by rwa [List.take_length] at h
    rw [hxl] at hrd
    have hcm := compare_c (.slice (some ⟨Y.heap.size + 2 + 1, 0, none⟩) d d) (.slice A d c) x l d hxl hll Z hrd (hv.below hbel)
    have hgt := cmpL_gt x l
    have HYs := Lib.hid hYs
    have Hx := Lib.hid hx
    have Hxl := Lib.hid hxl
    have Hq := Lib.hid hq
    by_cases he : lowB l x = true
    · rw [he] at hgt
      have He := Lib.hid he
      have hcl := clone_c (Y.heap.size + 2 + 1) 0 d x (by omega) (by omega) Z (by rw [hxl]; exact hrd)
      rw [hxl] at hcl
      clear hYs hx hxl he hq hj
      generalize cmpL x l = z at *
      gi_wp2_with fail
      refine ⟨trivial, ((callsIn_wide.2 hcm).inRound _).mono ?_⟩
      rintro e w4 ⟨rfl, rfl⟩
      clear c0
      gi_wp2_with fail
      refine ⟨trivial, ((callsIn_wide.2 hcl).inRound _).mono ?_⟩
      rintro e w5 ⟨b, cc, rfl, hcc, hcm, hbb, hrd5, hb5⟩
      have t1 := s1.later hb5
      have t2 := s2.later hb5
      have c1 := t1.cell 0
      have c2 := t2.cell 0
      have f1 := t1.frozen 0
      have f2 := t2.frozen 0
      simp only [List.getElem?_toArray, List.getElem?_cons_zero] at c1 c2
      have hZ := s2.lt
      have h5 := hb5.size
      have hcells : ∀ j, j < d → w5.cell? ⟨b, j, none⟩ = some (.int .i64 (nth x j)) := by
        intro j hj
        obtain ⟨_, _, e1, -, e2⟩ := hrd5
        cases e1
        obtain ⟨_, _, u, e3, e4, rfl⟩ := e2 j (by rw [Hxl.out]; exact hj)
        cases e3
        rwa [Nat.zero_add] at e4
      have hblt := block_lt_of_cell (hcells 0 (by omega))
      have Hcells := Lib.hid hcells
      clear hcells hrd5 hcl hrd hgt
      gi_wp2_with fail
      have hYs := HYs.out
      have hh' : Holds (fun r => r ≠ w.heap.size + 1 ∧ r ≠ w.heap.size + 1 + 1) w5 ((w5.setCell ⟨w.heap.size + 1, 0, none⟩ (.slice (some ⟨b, 0, none⟩) d cc)).setCell ⟨w.heap.size + 1 + 1, 0, none⟩ (.int .i64 0)) := ((Holds.refl _ _).set _ (by simp) _).set _ (by simp) _
      refine ⟨fun r => M1 r ∨ r = b, ?_, ?_, ?_, x, b, cc, ?_, Hxl.out, ?_, ?_, hcc, ?_, .inr rfl, ?_⟩
      · intro r hr
        have := hh'.size
        rcases hr with hr | rfl
        · have := (hM1 r hr).2; omega
        · exact Nat.lt_of_lt_of_le hblt hh'.size
      · rintro r (hr | rfl)
        · exact .inl hr
        · exact .inr hbb
      · exact ((Holds.of_keeps hb5 _).set _ (by simp; omega) _).set _ (by simp; omega) _
      · exact find_atq Hx.out He.out Hq.out
      · exact (t1.set 0 _).far (by simp) _
      · exact (t2.far (by simp) _).set 0 _
      · intro j hj
        exact (World.cell?_of_block (hh'.block b hblt ⟨by omega, by omega⟩)).trans (Hcells.out j hj)
      · exact ((Keeps.next hbel hb5).setCell (by simp <;> omega) _).setCell (by simp <;> omega) _
    · have he' : lowB l x = false := by simpa using he
      rw [he'] at hgt
      have He := Lib.hid he'
      clear hYs hx hxl he he' hq hrd
      generalize cmpL x l = z at *
      gi_wp2_with fail
      refine ⟨trivial, ((callsIn_wide.2 hcm).inRound _).mono ?_⟩
      rintro e w4 ⟨rfl, rfl⟩
      clear c0
      gi_wp2_with fail
      have hYs := HYs.out
      refine ⟨M1, fun r hr => (hM1 r hr).2, fun r h => .inl h, Holds.refl _ _, ?_, s0, s1, s2, hbel⟩
      intro j y hj hy
      by_cases h : j < q
      · exact Hq.out j y h hy
      · obtain rfl : j = q := by omega
        rw [Hx.out] at hy
        cases hy
        exact He.out
  case done =>
    rintro M1 Z ⟨hq, s0, s1, s2, hbel⟩ hK hM1
    have c1 := s1.cell 0
    have c2 := s2.cell 0
    have f1 := s1.frozen 0
    have f2 := s2.frozen 0
    simp only [List.getElem?_toArray, List.getElem?_cons_zero] at c1 c2
    have HYs := Lib.hid hYs
    have HK := Lib.hid hK
    have Hq := Lib.hid hq
    clear hYs hK hq
    gi_wp2_with fail
    have hYs := HYs.out
    have hfin : Holds (fun r => r = Y.heap.size) Z ((Z.setCell ⟨w.heap.size + 1, 0, none⟩ (.slice none 0 0)).setCell ⟨w.heap.size + 1 + 1, 0, none⟩ (.int .i64 6)) := ((Holds.refl _ _).set _ (by simp; omega) _).set _ (by simp; omega) _
    refine ⟨by simp, .inl ⟨_, _, rfl, run_takeDeferred ((hfin.block _ (Array.getElem?_eq_some_iff.1 HK.out).1 rfl).trans HK.out), ?_⟩⟩
    have y1 := ((s1.set 0 (.slice none 0 0)).far (p := ⟨w.heap.size + 1 + 1, 0, none⟩) (by simp) (.int .i64 6))
    have y2 := ((s2.far (p := ⟨w.heap.size + 1, 0, none⟩) (by simp) (.slice none 0 0)).set 0 (.int .i64 6))
    have hk4 : Keeps w ((Z.setCell ⟨w.heap.size + 1, 0, none⟩ (.slice none 0 0)).setCell ⟨w.heap.size + 1 + 1, 0, none⟩ (.int .i64 6)) := (hbel.setCell (by simp <;> omega) _).setCell (by simp <;> omega) _
    generalize (Z.setCell ⟨w.heap.size + 1, 0, none⟩ (.slice none 0 0)).setCell ⟨w.heap.size + 1 + 1, 0, none⟩ (.int .i64 6) = X at *
    have hfp : Holds (fun r => r ≠ Y.heap.size) X (X.putObj Y.heap.size (.deferred none)) := (Holds.refl _ _).put _ (by simp) _
    have x1 := (y1.holds hfp (by omega)).cell 0
    have x2 := (y2.holds hfp (by omega)).cell 0
    exact ⟨_, results_2 Try.results8 _ _ (w.heap.size + 1) (w.heap.size + 1 + 1) _ _ rfl rfl x1 x2 (Try.isAgg22 _) (Try.isAgg24 _), .inl ⟨find_non Hq.out, rfl⟩, ((Holds.of_below hk4).trans2 hfp (fun r _ h => by omega)).below (Nat.le_refl _)⟩
  case stop =>
    rintro q M1 Z ⟨x, b, cc, hC⟩ hK hM1
    have HYs := Lib.hid hYs
    have HK := Lib.hid hK
    clear hYs hK
    gi_wp2_with fail
    have hYs := HYs.out
    refine ⟨by simp, .inl ⟨_, _, rfl, run_takeDeferred HK.out, ?_⟩⟩
    have hfp : Holds (fun r => r ≠ Y.heap.size) Z (Z.putObj Y.heap.size (.deferred none)) := (Holds.refl _ _).put _ (by simp) _
    have x1 := (hC.h1.holds hfp (by omega)).cell 0
    have x2 := (hC.h2.holds hfp (by omega)).cell 0
    have hbY := (hM1 b hC.hM).1
    refine ⟨_, results_2 Try.results8 _ _ (w.heap.size + 1) (w.heap.size + 1 + 1) _ _ rfl rfl x1 x2 (Try.isAgg22 _) (Try.isAgg24 _), .inr ⟨x, b, cc, hC.hx, hC.hl, rfl, hC.hc, _, cc, by rw [hC.hl], ?_, fun j hj => ⟨b, 0, _, rfl, ?_, rfl⟩⟩, ((Holds.of_below hC.hk).trans2 hfp (fun r _ h => by omega)).below (Nat.le_refl _)⟩
    · have := hC.hl; unfold maxLen; omega
    · rw [Nat.zero_add]
      exact (World.cell?_of_block (hfp.block b (block_lt_of_cell (hC.hd j (by have := hC.hl; omega))) (by omega))).trans (hC.hd j (by have := hC.hl; omega))
set_option maxHeartbeats 1000000 in
theorem next_no (A : Option Addr) (c : Nat) (l : List Int) (d : Nat) (hll : l.length = d) (h : ordB l = false ∨ (ordB l = true ∧ cntB d = false)) (w : World) (hv : RdI w (.slice A d c) l) :
    Calls Try.prog 8 #[.slice A d c] w fun e w' => e = .returned (.tuple #[.slice none 0 0, .int .i64 2]) ∧ Keeps w w' := by
  have hio := fun x hx => isOrder_c (.slice A d c) l x hx
  have hic := fun x => isCounted_c d x
  have hfin : ∀ (w1 : World), Keeps (((w.alloc (.cells #[.slice A d c] 22)).alloc (.cells #[.slice none 0 0] 22)).alloc (.cells #[.int .i64 0] 24)) w1 → ∃ W, (w1.setCell ⟨w.heap.size + 1, 0, none⟩ (.slice none 0 0)).setCell ⟨w.heap.size + 1 + 1, 0, none⟩ (.int .i64 2) = W ∧ W.cell? ⟨w.heap.size + 1, 0, none⟩ = some (.slice none 0 0) ∧ W.cell? ⟨w.heap.size + 1 + 1, 0, none⟩ = some (.int .i64 2) ∧ Keeps w W := by
    intro w1 hb1
    have z1 : At w1 (w.heap.size + 1) 22 #[.slice none 0 0] := ((At.new2 w _ _ _).alloc _).later hb1
    have z2 : At w1 (w.heap.size + 1 + 1) 24 #[.int .i64 0] := (At.new' _ _ (by simp) _ _).later hb1
    have hk1 : Keeps w w1 := Keeps.next (Keeps.alloc (Keeps.alloc (Keeps.alloc (Below.refl _ _) _) _) _) hb1
    exact ⟨_, rfl, ((z1.set 0 (.slice none 0 0)).far (p := ⟨w.heap.size + 1 + 1, 0, none⟩) (by simp) (.int .i64 2)).cell 0, ((z2.far (p := ⟨w.heap.size + 1, 0, none⟩) (by simp) (.slice none 0 0)).set 0 (.int .i64 2)).cell 0, (hk1.setCell (by simp <;> omega) _).setCell (by simp <;> omega) _⟩
  have Hfin := Lib.hid hfin
  clear hfin
  rcases h with h | ⟨h, h2⟩
  · rw [h] at hio
    clear h hic
    go_enter Try.func8, Try.ntmps8
    go_wp2_with fail
    refine (hio _ (hv.below (Keeps.alloc (Keeps.alloc (Keeps.alloc (Below.refl _ _) _) _) _))).mono ?_
    rintro e w1 ⟨rfl, hb1⟩
    have z1 : At w1 (w.heap.size + 1) 22 #[.slice none 0 0] := ((At.new2 w _ _ _).alloc _).later hb1
    have z2 : At w1 (w.heap.size + 1 + 1) 24 #[.int .i64 0] := (At.new' _ _ (by simp) _ _).later hb1
    have c1 := z1.cell 0
    have c2 := z2.cell 0
    have f1 := z1.frozen 0
    have f2 := z2.frozen 0
    simp only [List.getElem?_toArray, List.getElem?_cons_zero] at c1 c2
    obtain ⟨W, hW, g1, g2, g3⟩ := Hfin.out w1 hb1
    clear hio hv
    go_wp2_with fail
    refine bodyPost_ret (v := .tuple #[.slice none 0 0, .int .i64 2]) (results_2 Try.results8 _ _ (w.heap.size + 1) (w.heap.size + 1 + 1) _ _ rfl rfl g1 g2 (Try.isAgg22 _) (Try.isAgg24 _)) rfl ?_
    exact ⟨rfl, g3⟩
  · rw [h] at hio
    rw [h2] at hic
    clear h h2
    go_enter Try.func8, Try.ntmps8
    go_wp2_with fail
    refine (hio _ (hv.below (Keeps.alloc (Keeps.alloc (Keeps.alloc (Below.refl _ _) _) _) _))).mono ?_
    rintro e w1 ⟨rfl, hb1⟩
    have c0 := ((((At.new w _ _).alloc _).alloc _).later hb1).cell 0
    have z1 : At w1 (w.heap.size + 1) 22 #[.slice none 0 0] := ((At.new2 w _ _ _).alloc _).later hb1
    have z2 : At w1 (w.heap.size + 1 + 1) 24 #[.int .i64 0] := (At.new' _ _ (by simp) _ _).later hb1
    have c1 := z1.cell 0
    have c2 := z2.cell 0
    have f1 := z1.frozen 0
    have f2 := z2.frozen 0
    simp only [List.getElem?_toArray, List.getElem?_cons_zero] at c0 c1 c2
    obtain ⟨W, hW, g1, g2, g3⟩ := Hfin.out w1 hb1
    clear hio hv
    go_wp2_with (go_at_call 22; refine (hic _).mono ?_; rintro e w2 ⟨rfl, rfl⟩)
    refine bodyPost_ret (v := .tuple #[.slice none 0 0, .int .i64 2]) (results_2 Try.results8 _ _ (w.heap.size + 1) (w.heap.size + 1 + 1) _ _ rfl rfl g1 g2 (Try.isAgg22 _) (Try.isAgg24 _)) rfl ?_
    exact ⟨rfl, g3⟩
end Go.Proofs.Ytodopdfjjgpdeaa
