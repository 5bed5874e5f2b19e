/- The walk of rung. -/
import Derived.Test.YtfekggmdhmkemaaDoorGc
namespace Go.Proofs.YtfekggmdhmkemaaDoor
open Go.RowKit Go.Shelf
set_option linter.unusedVariables false
set_option linter.unusedSimpArgs false
attribute [local go_sem] Oper.semAt_some

theorem Holds.row {K : Nat → Prop} {a w : World} (h : Holds K a w) (g : Nat) (hg : ¬ K g) (cs : Array Value) : Holds K a (w.setRow g cs) :=
  h.trans ⟨rfl, rfl, rfl, by simp, fun k _ hk => setRow_other w g k cs (fun e => hg (e ▸ hk))⟩
/-- A result that lies in a cell. -/
theorem results_cell_one {P : Program} {fn : Func} {p : Tmp} {ty : TypeId} (hr : fn.results = #[.cell p ty]) (tmps : Array Value) (w : World) (a : Addr) (v : Value) (hp : tmps.getD p undef = .pointer (some a))
    (hagg : (isAgg ty).run P w = .ok false w) (hc : w.cell? a = some v) : (results fn tmps).run P w = .ok v w := by
  have hp' : tmps[p]?.getD undef = .pointer (some a) := by simpa using hp
  simp [results, hr, hp', asAddr, loadVar, Sem.run_bind, hagg, load, Sem.run, hc, Result.andThen]
/-- Marks of loops over functions that have ended. -/
def mk1 (D : Nat) : Deferred := { target := .collected D, args := #[] }
theorem leaves_marks {F : Fence} {n : Nat} {P : Program} {fn : Func} {tmps : Array Value} {R : Ending → World → Prop} : ∀ (Ds : List Nat) (W : World), Ds.Nodup → (∀ D ∈ Ds, W.heap[D]? = some (.deferred (some []))) →
    (∀ W', Holds (fun r => r ∉ Ds) W W' → ∃ v, (results fn tmps).run P W' = .ok v W' ∧ R (.returned v) W') → LeavesInM F n P fn tmps R (Ds.map mk1) .returning W
  | [], W, _, _, h => by
    obtain ⟨v, h1, h2⟩ := h W (Holds.refl _ _)
    exact ⟨v, h1, h2⟩
  | D :: Ds, W, hn, hd, h => by
    have hD := hd D (by simp)
    rw [List.nodup_cons] at hn
    refine ⟨by simp, .inl ⟨D, _, rfl, run_takeDeferred hD, ?_⟩⟩
    refine leaves_marks Ds _ hn.2 (fun E hE => ?_) (fun W' hh => h W' ?_)
    · exact (World.putObj_heap_other (fun e => hn.1 (by rw [← e]; exact hE))).trans (hd E (by simp [hE]))
    · exact ((Holds.refl _ W).put D (by simp) _).trans (hh.mono (fun r _ h => fun hr => h (by simp [hr])))

/-- Where a power stands on the ladder; a step of the search for a rung. -/
def posP (e : Int) : Int := (pw e).1 + 2 * (pw e).2
def rgS (s : Int × (Int × Int)) (e : Int) : Int × (Int × Int) := if posP e ≤ s.1 then (s.1 - posP e, (s.2.1 + (pw e).1, s.2.2 + (pw e).2)) else s
def rgJ (k : Int) (j : Nat) : Int × (Int × Int) := ((pdn 39 40).take j).foldl rgS (k, (0, 0))
def rungG (k : Int) : Int × Int := (rgJ k 40).2
theorem pdn_take (f : Int) (n j : Nat) (h : j < n) : (pdn f n).take (j + 1) = (pdn f n).take j ++ [f - j] := by
  rw [List.take_succ_eq_append_getElem (by rw [pdn_length]; exact h)]
  simp [pdn]
theorem rgJ_succ (k : Int) (j : Nat) (h : j < 40) : rgJ k (j + 1) = rgS (rgJ k j) (39 - j) := by
  rw [rgJ, pdn_take _ _ _ h, List.foldl_append]; rfl
theorem posP_all : ((List.range 40).all fun e => decide (0 < posP e)) = true := by decide +kernel
theorem posP_pos (e : Nat) (h : e < 40) : 0 < posP e := by
  have := List.all_eq_true.1 posP_all e (by simpa using h)
  simpa using this
theorem rgJ_in (k : Int) (hk : 0 ≤ k) (j : Nat) (hj : j ≤ 40) : 0 ≤ (rgJ k j).1 ∧ (rgJ k j).1 ≤ k ∧ sm (j * 300000000) (rgJ k j).2.1 ∧ sm (j * 300000000) (rgJ k j).2.2 := by
  induction j with
  | zero => simp [rgJ, sm, hk]
  | succ j ih =>
    obtain ⟨h1, h2, h3, h4⟩ := ih (by omega)
    rw [rgJ_succ k j (by omega)]
    have hp := pw_sm (39 - j) (by omega) (by omega)
    have hq := posP_pos (39 - j) (by omega)
    rw [show ((39 - j : Nat) : Int) = 39 - (j : Int) by omega] at hq
    unfold rgS
    unfold sm at *
    split
    · simp only; omega
    · omega
set_option maxHeartbeats 4000000 in
set_option maxRecDepth 100000 in
theorem rung_c (k : Int) (hk0 : 0 ≤ k) (hk1 : k ≤ 1000000000) (w : World) :
    Calls Tryd.prog 62 #[.int .i64 k] w fun e w' => e = .returned (.agg (gv (rungG k))) ∧ Keeps w w' := by
  refine (callsIn_wide (n := 5)).1 ?_
  refine callsIn_of_wp_marks Tryd.func62 rfl trivial ?_ rfl
  simp only [Tryd.ntmps62, List.size_toArray, List.length_cons, List.length_nil, Nat.reduceAdd, Nat.reduceSub, Array.replicate_succ, Array.replicate_zero, List.push_toArray, List.append_toArray, List.nil_append, List.cons_append]
  have hA0 := At.new3 w (.cells #[.int .i64 k] 3) (.cells #[.int .i64 0, .int .i64 0] 24) 24 (gv (0, 0))
  gi_wp2_with (refine in_store_row rfl 24 _ _ rfl (w.heap.size + 1 + 1) (gv (0, 0)) rfl rfl 24 (gv (0, 0)) hA0 (sizeV _) rfl (oneV _) ?_)
  refine ⟨trivial, (callsIn_wide.2 (powers_c 39 0 _)).mono ?_⟩
  rintro e w2 ⟨rfl, rfl⟩
  gi_wp2_with fail
  obtain ⟨Y, hY⟩ : ∃ Y, (((((w.alloc (.cells #[.int .i64 k] 3)).alloc (.cells #[.int .i64 0, .int .i64 0] 24)).alloc (.cells #[.int .i64 0, .int .i64 0] 24)).setRow (w.heap.size + 1 + 1) (gv (0, 0))).alloc (.cells #[.int .i64 39] 3)).alloc (.cells #[.int .i64 0] 3) = Y := ⟨_, rfl⟩
  have hYs : Y.heap.size = w.heap.size + 5 := by rw [← hY]; simp
  have hkY0 : At Y w.heap.size 3 #[.int .i64 k] := by rw [← hY]; exact (((((At.new w _ _).alloc _).alloc _).rowfar (by omega) _).alloc _).alloc _
  have hrY : At Y (w.heap.size + 1) 24 (gv (0, 0)) := by rw [← hY]; exact ((((At.new2 w _ _ _).alloc _).rowfar (by omega) _).alloc _).alloc _
  have hvY : At Y (w.heap.size + 1 + 1) 24 (gv (0, 0)) := by rw [← hY]; exact ((hA0.row (gv (0, 0))).alloc _).alloc _
  have h39 : At Y (w.heap.size + 1 + 1 + 1) 3 #[.int .i64 39] := by rw [← hY]; exact (At.new' _ _ (by simp) _ _).alloc _
  have h00 : At Y (w.heap.size + 1 + 1 + 1 + 1) 3 #[.int .i64 0] := by rw [← hY]; exact At.new' _ _ (by simp) _ _
  have hkY : Keeps w Y := by rw [← hY]; exact Keeps.alloc (Keeps.alloc (below_row (Keeps.alloc (Keeps.alloc (Keeps.alloc (Below.refl _ _) _) _) _) (by omega) _) _) _
  rw [hY]
  clear hY hA0
  refine range_mine (pdn 39 40) (gf := 54) (lb := #[.pointer (some ⟨w.heap.size + 1 + 1 + 1, 0, none⟩), .pointer (some ⟨w.heap.size + 1 + 1 + 1 + 1, 0, none⟩)]) rfl (enters_of Tryd.func54 (by kernel_rfl) rfl)
    (powers_iter 39 0 (by decide) (by decide) (by decide) (w.heap.size + 1 + 1 + 1) (w.heap.size + 1 + 1 + 1 + 1) (fun r => r = w.heap.size + 1 + 1 + 1 ∨ r = w.heap.size + 1 + 1 + 1 + 1) (.inl rfl) (.inr rfl) Y (fun r h => by omega) h39 h00)
    (fun _ _ => rfl) (fun r h => by omega) (fun _ _ _ _ _ _ => trivial)
    (fun j _ Z => At Z w.heap.size 3 #[.int .i64 (rgJ k j).1] ∧ At Z (w.heap.size + 1 + 1) 24 (gv (rgJ k j).2) ∧ At Z (w.heap.size + 1) 24 (gv (0, 0)) ∧ Below w.heap.size w Z) (fun _ _ _ => False)
    (fun j M Z Z' h hh => ⟨h.1.holds hh (.inl (by omega)), h.2.1.holds hh (.inl (by omega)), h.2.2.1.holds hh (.inl (by omega)), ((Holds.of_below h.2.2.2).trans2 hh (fun r _ h => .inl (by omega))).below (Nat.le_refl _)⟩) (fun _ _ _ _ h _ => h) ⟨hkY0, hvY, hrY, hkY⟩
    (fun x a' Z => ∃ b5, Y.heap.size + 2 ≤ b5 ∧ At Z b5 24 (gv (pw x)) ∧ a' = { tmps := #[.int .i64 k, .pointer (some ⟨w.heap.size, 0, none⟩), .pointer (some ⟨w.heap.size + 1, 0, none⟩), .pointer (some ⟨w.heap.size + 1 + 1, 0, none⟩), undef, .pointer (some ⟨b5, 0, none⟩), undef, .agg #[.int .i64 0, .int .i64 0],
      .func (.func 54) #[] #[.pointer (some ⟨w.heap.size + 1 + 1 + 1, 0, none⟩), .pointer (some ⟨w.heap.size + 1 + 1 + 1 + 1, 0, none⟩)], .int .i64 x, .agg (gv (pw x)), undef, undef, undef, undef, undef, undef, undef, undef, undef, undef, undef, undef], defers := [] })
    (fun x a Z Z' hh ⟨b5, h1, h2, h3⟩ => ⟨b5, h1, h2.holds hh (by omega), h3⟩) ?assign ?body ?done ?stop
  case assign =>
    intro l' j x M1 Z _ _ _ hsz
    have HYs := Lib.hid hYs
    clear hYs
    simp only [encP]
    gi_wp2_with (refine in_store_row rfl 24 _ _ rfl Z.heap.size (gv (pw x)) rfl rfl 24 (gv (0, 0)) (At.new Z 24 _) (sizeV _) rfl (oneV _) ?_)
    refine ⟨Holds.mono (Holds.row (K := fun r => r ≠ Z.heap.size) ((Holds.refl _ Z).alloc _) _ (by simp) _) (fun r hr _ => by omega), Z.heap.size, hsz, (At.new Z 24 (gv (0, 0))).row _, rfl⟩
  case body =>
    rintro l' j x M1 a' Z hx ⟨hc, hv, hr, hbel⟩ hM1 hKin _ ⟨b5, hb5, hp, rfl⟩ hsz
    obtain ⟨hj, rfl⟩ := pdn_of _ _ _ _ hx
    have hin := rgJ_in k hk0 j (by omega)
    have hps := pw_sm (39 - j) (by omega) (by omega)
    have hpos := fun y => position_c (pw (39 - j)).1 (pw (39 - j)).2 (sm_mono hps.1 (by decide)) (sm_mono hps.2 (by decide)) y
    have hplus := fun y => plus_c (rgJ k j).2.1 (rgJ k j).2.2 (pw (39 - j)).1 (pw (39 - j)).2 (sm_mono hin.2.2.1 (by omega)) (sm_mono hin.2.2.2 (by omega)) (sm_mono hps.1 (by decide)) (sm_mono hps.2 (by decide)) y
    have hpp : posP (39 - j) = (pw (39 - j)).1 + 2 * (pw (39 - j)).2 := rfl
    rw [← hpp] at hpos
    have hp0 := posP_pos (39 - j) (by omega)
    rw [show ((39 - j : Nat) : Int) = 39 - (j : Int) by omega] at hp0
    have hsc := rgJ_succ k j hj
    unfold rgS at hsc
    obtain ⟨i1, i2, -, -⟩ := hin
    have fc := hc.frozen 0
    have cc := hc.cell 0
    simp only [List.getElem?_toArray, List.getElem?_cons_zero] at cc
    have cp := hp.lt
    have cc1 := fun o => (hc.alloc o).cell 0
    simp only [List.getElem?_toArray, List.getElem?_cons_zero] at cc1
    clear hps hpp hx
    have HYs := Lib.hid hYs
    clear hYs
    by_cases hle : posP (39 - j) ≤ (rgJ k j).1
    · rw [if_pos hle] at hsc
      have Hsc := Lib.hid hsc
      have hd : decide (posP (39 - j) ≤ (rgJ k j).1) = true := by simpa using hle
      have hw1 : IntKind.i64.wrap ((rgJ k j).1 - posP (39 - j)) = (rgJ k j).1 - posP (39 - j) := IntWalk.i64_in _ (by omega)
      clear hsc
      generalize hp39 : pw (39 - j) = pp at *
      gi_wp2_with (first
        | refine in_load_row rfl 24 _ rfl b5 rfl 24 _ _ hp Tryd.underlying24 rfl (sizeV _) ?_)
      refine ⟨trivial, ((callsIn_wide.2 (hpos _)).inRound l').mono ?_⟩
      rintro e w1 ⟨rfl, rfl⟩
      have hv1 := hv.alloc (.cells #[.int .i64 pp.1, .int .i64 pp.2] 24)
      have hp1 := hp.alloc (.cells #[.int .i64 pp.1, .int .i64 pp.2] 24)
      clear cc
      gi_wp2_with (first
        | refine in_load_row rfl 24 _ rfl b5 rfl 24 _ _ hp1 Tryd.underlying24 rfl (sizeV _) ?_
        | refine in_load_row rfl 24 _ rfl (w.heap.size + 1 + 1) rfl 24 _ _ hv1 Tryd.underlying24 rfl (sizeV _) ?_)
      refine ⟨trivial, ((callsIn_wide.2 (hplus _)).inRound l').mono ?_⟩
      rintro e w2 ⟨rfl, hk2⟩
      have hv2 := hv1.later hk2
      have hc2 := (hc.alloc (.cells #[.int .i64 pp.1, .int .i64 pp.2] 24)).later hk2
      have hr2 := (hr.alloc (.cells #[.int .i64 pp.1, .int .i64 pp.2] 24)).later hk2
      have hZ2 : Keeps Z w2 := Keeps.next (Keeps.alloc (Below.refl _ _) _) hk2
      have hc3 := hc2.rowfar (by omega) (gv ((rgJ k j).2.1 + pp.1, (rgJ k j).2.2 + pp.2)) (g' := w.heap.size + 1 + 1)
      have fc3 := hc3.frozen 0
      have cc3 := hc3.cell 0
      simp only [List.getElem?_toArray, List.getElem?_cons_zero] at cc3
      clear cc1 fc hpos hplus
      gi_wp2_with (first
        | refine in_store_row rfl 24 _ _ rfl (w.heap.size + 1 + 1) (gv ((rgJ k j).2.1 + pp.1, (rgJ k j).2.2 + pp.2)) rfl rfl 24 _ hv2 (sizeV _) rfl (oneV _) ?_)
      have hYs := HYs.out
      have hZs := hZ2.size
      have hv3 := hv2.row (gv ((rgJ k j).2.1 + pp.1, (rgJ k j).2.2 + pp.2))
      have hr3 := hr2.rowfar (by omega) (gv ((rgJ k j).2.1 + pp.1, (rgJ k j).2.2 + pp.2)) (g' := w.heap.size + 1 + 1)
      refine ⟨M1, fun r hr => Nat.lt_of_lt_of_le (hM1 r hr).2 (by simp [World.setCell]; omega), fun r h => .inl h, ?_, ?_, ?_, ?_, ?_⟩
      · exact (((Holds.of_keeps hZ2 _).row _ (by omega) _).set _ (by simp; omega) _)
      · rw [Hsc.out]; exact hc3.set 0 _
      · rw [Hsc.out]; exact hv3.far (by simp; omega) _
      · exact hr3.far (by simp) _
      · exact (below_row (hbel.trans (hZ2.mono hbel.size)) (by omega) _).setCell (by simp) _
    · rw [if_neg hle] at hsc
      have Hsc := Lib.hid hsc
      have hd : decide (posP (39 - j) ≤ (rgJ k j).1) = false := by simpa using hle
      clear hsc hplus
      generalize hp39 : pw (39 - j) = pp at *
      gi_wp2_with (first
        | refine in_load_row rfl 24 _ rfl b5 rfl 24 _ _ hp Tryd.underlying24 rfl (sizeV _) ?_)
      refine ⟨trivial, ((callsIn_wide.2 (hpos _)).inRound l').mono ?_⟩
      rintro e w1 ⟨rfl, rfl⟩
      clear cc hpos
      gi_wp2_with fail
      have hk1 : Keeps Z (Z.alloc (.cells #[.int .i64 pp.1, .int .i64 pp.2] 24)) := Keeps.alloc (Below.refl _ _) _
      refine ⟨M1, fun r hr => Nat.lt_of_lt_of_le (hM1 r hr).2 (by simp), fun r h => .inl h, Holds.of_keeps hk1 _, ?_, ?_, hr.alloc _, hbel.trans (hk1.mono hbel.size)⟩
      · rw [Hsc.out]; exact hc.alloc _
      · rw [Hsc.out]; exact hv.alloc _
  case done =>
    rintro M1 Z ⟨hc, hv, hr, hbel⟩ hK hM1
    rw [show (pdn 39 40).length = 40 from rfl] at hv
    have HYs := Lib.hid hYs
    have HK := Lib.hid hK
    clear hYs hK hc
    gi_wp2_with (first
      | refine in_load_row rfl 24 _ rfl (w.heap.size + 1 + 1) rfl 24 _ _ hv Tryd.underlying24 rfl (sizeV _) ?_
      | refine in_store_row rfl 24 _ _ rfl (w.heap.size + 1) (gv (rgJ k 40).2) rfl rfl 24 _ hr (sizeV _) rfl (oneV _) ?_)
    have hYs := HYs.out
    have hr2 := hr.row (gv (rgJ k 40).2)
    have hK2 := (setRow_other Z (w.heap.size + 1) Y.heap.size (gv (rgJ k 40).2) (by omega)).trans HK.out
    refine leaves_marks [Y.heap.size] _ (by simp) (fun D h => ?_) (fun W' hh => ⟨.agg (gv (rungG k)), ?_, rfl, ?_⟩)
    · obtain rfl : D = Y.heap.size := by simpa using h
      exact hK2
    · have := hr2.holds hh (by simp; omega)
      exact results_cell_row Tryd.results62 _ _ (w.heap.size + 1) _ _ _ _ rfl this Tryd.underlying24 rfl (sizeV _)
    · exact ((Holds.of_below (below_row hbel (by omega) _)).trans2 hh (fun r _ h hr => by
        have : r = Y.heap.size := by simpa using hr
        omega)).below (Nat.le_refl _)
  case stop =>
    rintro j M1 Z h _ _
    exact h.elim
end Go.Proofs.YtfekggmdhmkemaaDoor
