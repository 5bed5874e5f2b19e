/- The walk of Divide. -/
import Derived.Test.YtfekggmdhmkemaaDoorGg
import Derived.Deep.RegionHeld3
import Derived.RegionTactic
import Derived.Test.YtfekggmdhmkemaaDoorRl
import Derived.Deep.Cut
import Derived.Deep.DeepCutAuto
namespace Go.Proofs.YtfekggmdhmkemaaDoor
open Go.RowKit
set_option linter.unusedVariables false
set_option linter.unusedSimpArgs false

set_option maxHeartbeats 1000000 in
theorem minusB_c (a b c d : Int) (ha : sm 1000000000000000 a) (hb : sm 1000000000000000 b) (hc : sm 1000000000000000 c) (hd : sm 1000000000000000 d) (w : World) :
    Calls Tryd.prog 46 #[.agg #[.int .i64 a, .int .i64 b], .agg #[.int .i64 c, .int .i64 d]] w fun e w' => e = .returned (.agg #[.int .i64 (a - c), .int .i64 (b - d)]) ∧ Keeps w w' := by
  have ha2 := ha
  unfold sm at ha2
  obtain ⟨a1, a2⟩ := ha2
  have hb2 := hb
  unfold sm at hb2
  obtain ⟨b1, b2⟩ := hb2
  have hc2 := hc
  unfold sm at hc2
  obtain ⟨c1, c2⟩ := hc2
  have hd2 := hd
  unfold sm at hd2
  obtain ⟨d1, d2⟩ := hd2
  have hX := At.new3 w (.cells #[.int .i64 a, .int .i64 b] 24) (.cells #[.int .i64 c, .int .i64 d] 24) 24 #[.int .i64 0, .int .i64 0]
  have hk : Keeps w (((w.alloc (.cells #[.int .i64 a, .int .i64 b] 24)).alloc (.cells #[.int .i64 c, .int .i64 d] 24)).alloc (.cells #[.int .i64 0, .int .i64 0] 24)) := Keeps.alloc (Keeps.alloc (Keeps.alloc (Below.refl _ _) _) _) _
  go_enter Tryd.func46, Tryd.ntmps46
  go_wp2_with (refine wpList_store_row rfl 24 _ _ rfl (w.heap.size + 1 + 1) #[.int .i64 (a - c), .int .i64 (b - d)] rfl rfl 24 #[.int .i64 0, .int .i64 0] hX (sizeG _ _) rfl (oneG _ _) ?_)
  have h3 := hX.row #[.int .i64 (a - c), .int .i64 (b - d)]
  refine bodyPost_ret (results_cell_row Tryd.results46 _ _ (w.heap.size + 1 + 1) _ _ _ _ rfl h3 Tryd.underlying24 rfl (sizeG _ _)) rfl ⟨rfl, below_row hk (by omega) _⟩
theorem results_two {P : Program} {fn : Func} {p q u : Tmp} {ty : TypeId} (hr : fn.results = #[.cell p ty, .cell q ty, .tmp u]) (tmps : Array Value) (w : World) (g g' : Nat) (cs cs' : Array Value) (t t' : TypeId) (d : TypeDesc)
    (hp : tmps.getD p undef = .pointer (some ⟨g, 0, none⟩)) (hq : tmps.getD q undef = .pointer (some ⟨g', 0, none⟩)) (hg : At w g t cs) (hg' : At w g' t' cs') (hu : P.underlying ty = some d) (hd : (match d with | .struct _ | .array _ _ => true | _ => false) = true)
    (hi : (P.info? ty).map (·.size) = some cs.size) (hi' : (P.info? ty).map (·.size) = some cs'.size) : (results fn tmps).run P w = .ok (.tuple #[.agg cs, .agg cs', tmps.getD u undef]) w := by
  have e : (results fn tmps).run P w = ((asAddr (tmps.getD p undef)).run P w).andThen fun a w₁ => ((loadVar ty a).run P w₁).andThen fun v w₂ => ((asAddr (tmps.getD q undef)).run P w₂).andThen fun a' w₃ => ((loadVar ty a').run P w₃).andThen fun v' w₄ => .ok (.tuple #[v, v', tmps.getD u undef]) w₄ := by
    simp only [results, hr]
    simp [Sem.run_bind, Result.andThen]
  rw [e, hp, hq]
  simp only [asAddr, Sem.run_pure, Result.andThen_ok]
  rw [run_loadVar_row w g t ty cs (0, 0) d hg hu hd hi]
  simp only [Result.andThen_ok]
  rw [run_loadVar_row w g' t' ty cs' (0, 0) d hg' hu hd hi']
  simp only [Result.andThen_ok]
def mateG (y : Int × Int) : Int × Int := (y.1 + y.2, -y.2)
def timesG (x y : Int × Int) : Int × Int := (x.1 * y.1 + x.2 * y.2, x.1 * y.2 + x.2 * y.1 + x.2 * y.2)
def normG (y : Int × Int) : Int := y.1 * y.1 + y.1 * y.2 - y.2 * y.2
def minusG (x y : Int × Int) : Int × Int := (x.1 - y.1, x.2 - y.2)
def sm2 (B : Int) (x : Int × Int) : Prop := sm B x.1 ∧ sm B x.2
theorem sm2_of {x : Int × Int} (h : numB x.1 x.2 = true) : sm2 1000000 x := by
  have := (numB_iff _ _).1 h; exact ⟨this.1, this.2⟩
theorem sm2_mono {A B : Int} {x : Int × Int} (h : sm2 A x) (hab : A ≤ B) : sm2 B x := ⟨sm_mono h.1 hab, sm_mono h.2 hab⟩
theorem mate_v (x : Int × Int) (h : sm2 1000000000000 x) (w : World) : Calls Tryd.prog 47 #[.agg (gv x)] w fun e w' => e = .returned (.agg (gv (mateG x))) ∧ Keeps w w' := mateOf_c x.1 x.2 h.1 h.2 w
theorem times_v (x y : Int × Int) (h : sm2 1000000000 x) (h' : sm2 1000000000 y) (w : World) : Calls Tryd.prog 41 #[.agg (gv x), .agg (gv y)] w fun e w' => e = .returned (.agg (gv (timesG x y))) ∧ Keeps w w' := times_c x.1 x.2 y.1 y.2 h.1 h.2 h'.1 h'.2 w
theorem minus_v (x y : Int × Int) (h : sm2 1000000000000 x) (h' : sm2 1000000000000 y) (w : World) : Calls Tryd.prog 46 #[.agg (gv x), .agg (gv y)] w fun e w' => e = .returned (.agg (gv (minusG x y))) ∧ Keeps w w' := minus_c x.1 x.2 y.1 y.2 h.1 h.2 h'.1 h'.2 w
theorem norm_v (x : Int × Int) (h : sm2 1000000000 x) (w : World) : Calls Tryd.prog 48 #[.agg (gv x)] w fun e w' => e = .returned (.int .i64 (normG x)) ∧ Keeps w w' :=
  (normOf_c x.1 x.2 h.1 h.2 w).mono fun e w' ⟨h1, h2⟩ => ⟨h1, h2 ▸ Keeps.alloc (Below.refl _ _) _⟩
theorem isNumber_v (x : Int × Int) (w : World) : Calls Tryd.prog 38 #[.agg (gv x)] w fun e w' => e = .returned (.bool (numB x.1 x.2)) ∧ Keeps w w' :=
  (isNumber_c x.1 x.2 w).mono fun e w' ⟨h1, h2⟩ => ⟨h1, h2 ▸ Keeps.alloc (Below.refl _ _) _⟩
theorem sm2_mate {x : Int × Int} (h : sm2 1000000 x) : sm2 2000000 (mateG x) := by unfold sm2 sm mateG at *; simp only; omega
theorem sm2_times {A B : Int} {x y : Int × Int} (h : sm2 A x) (h' : sm2 B y) (hA : 0 ≤ A) (hB : 0 ≤ B) : sm2 (3 * (A * B)) (timesG x y) := by
  have h1 := sm_mul A B _ _ h.1 h'.1 hA hB
  have h2 := sm_mul A B _ _ h.2 h'.2 hA hB
  have h3 := sm_mul A B _ _ h.1 h'.2 hA hB
  have h4 := sm_mul A B _ _ h.2 h'.1 hA hB
  unfold sm2 sm timesG at *; simp only; omega
theorem sm_norm {x : Int × Int} (h : sm2 1000000 x) : sm 3000000000000 (normG x) := by
  have h1 := sm_mul _ _ _ _ h.1 h.1 (by decide) (by decide)
  have h2 := sm_mul _ _ _ _ h.2 h.2 (by decide) (by decide)
  have h3 := sm_mul _ _ _ _ h.1 h.2 (by decide) (by decide)
  unfold sm normG at *; omega
theorem cells_gv {w : World} {g : Nat} {t : TypeId} {x : Int × Int} (h : At w g t (gv x)) : w.cell? ⟨g, 0, none⟩ = some (.int .i64 x.1) ∧ w.cell? ⟨g, 1, none⟩ = some (.int .i64 x.2) :=
  ⟨by have := h.cell 0; simpa [gv] using this, by have := h.cell 1; simpa [gv] using this⟩
theorem zero_at {w : World} {g : Nat} {t : TypeId} (a5 : At w g t #[.int .i64 0, .int .i64 0]) : w.cell? ⟨g, 0, none⟩ = some (.int .i64 0) ∧ w.cell? ⟨g, 1, none⟩ = some (.int .i64 0) ∧ w.frozen? ⟨g, 0, none⟩ = false ∧ w.frozen? ⟨g, 1, none⟩ = false :=
  ⟨by have := a5.cell 0; simpa using this, by have := a5.cell 1; simpa using this, a5.frozen 0, a5.frozen 1⟩
theorem At.laid {V w : World} {t : TypeId} {cs : Array Value} (h : Keeps (V.alloc (.cells cs t)) w) : At w V.heap.size t cs := (At.new V t cs).later h
theorem Keeps.set {a w : World} (h : Keeps a w) (g : Nat) (hg : a.heap.size ≤ g) (o : Nat) (u : Value) : Keeps a (w.setCell ⟨g, o, none⟩ u) := Below.setCell h hg u
theorem Keeps.le {V w : World} (h : Keeps V w) : V.heap.size ≤ w.heap.size := h.size
theorem Keeps.le1 {V w : World} {o : Obj} (h : Keeps (V.alloc o) w) : V.heap.size ≤ w.heap.size := by have := h.size; simp at this; omega
theorem Keeps.dr {a w : World} (h : Keeps a w) : Keeps a w.drew := below_drewN (n := 1) h
theorem At.laidD {V w : World} {t : TypeId} {cs : Array Value} (h : Keeps (V.alloc (.cells cs t)).drew w) : At w V.heap.size t cs := At.laid (V := V) ⟨h.os, h.tape, h.output, h.size, h.block⟩
theorem minusB_v (x y : Int × Int) (h : sm2 1000000000000000 x) (h' : sm2 1000000000000000 y) (w : World) : Calls Tryd.prog 46 #[.agg (gv x), .agg (gv y)] w fun e w' => e = .returned (.agg (gv (minusG x y))) ∧ Keeps w w' := minusB_c x.1 x.2 y.1 y.2 h.1 h.2 h'.1 h'.2 w
def divQ (x y : Int × Int) : Int × Int := (nearG (timesG x (mateG y)).1 (normG y), nearG (timesG x (mateG y)).2 (normG y))
def divR (x y : Int × Int) : Int × Int := minusG x (timesG (divQ x y) y)
set_option maxHeartbeats 4000000 in
set_option maxRecDepth 100000 in
theorem divide_ok (x y : Int × Int) (hx : numB x.1 x.2 = true) (hy : numB y.1 y.2 = true) (hy0 : y ≠ (0, 0)) (hN : normG y ≠ 0) (hq : numB (divQ x y).1 (divQ x y).2 = true) (hr : numB (divR x y).1 (divR x y).2 = true) (w : World) :
    Calls Tryd.prog 28 #[.agg (gv x), .agg (gv y)] w fun e w' => e = .returned (.tuple #[.agg (gv (divQ x y)), .agg (gv (divR x y)), .int .i64 0]) ∧ Keeps w w' := by
  have sx := sm2_of hx
  have sy := sm2_of hy
  have sq := sm2_of hq
  have i1 := fun z => isNumber_v x z
  have i2 := fun z => isNumber_v y z
  rw [hx] at i1
  rw [hy] at i2
  have c1 := fun z => mate_v y (sm2_mono sy (by decide)) z
  have c2 : ∀ z, Calls Tryd.prog 41 #[.agg (gv x), .agg (gv (mateG y))] z fun e w' => e = .returned (.agg #[.int .i64 (timesG x (mateG y)).1, .int .i64 (timesG x (mateG y)).2]) ∧ Keeps z w' := fun z => times_v x (mateG y) (sm2_mono sx (by decide)) (sm2_mono (sm2_mate sy) (by decide)) z
  have c3 := fun z => norm_v y (sm2_mono sy (by decide)) z
  have st := sm2_times sx (sm2_mate sy) (by decide) (by decide)
  have sn := sm_norm sy
  have n1 := fun z => nearest_c (timesG x (mateG y)).1 (normG y) (sm_mono st.1 (by decide)) (sm_mono sn (by decide)) hN z
  have n2 := fun z => nearest_c (timesG x (mateG y)).2 (normG y) (sm_mono st.2 (by decide)) (sm_mono sn (by decide)) hN z
  have hXb : ∃ b1 b2 : Bool, (y.1 == 0) = b1 ∧ (y.2 == 0) = b2 ∧ (b1 && b2) = false := ⟨_, _, rfl, rfl, by
    cases h1 : (y.1 == 0) <;> cases h2 : (y.2 == 0) <;> simp_all
    exact hy0 (Prod.ext h1 h2)⟩
  obtain ⟨b1, b2, hb1', hb2', hb⟩ := hXb
  have i3 := fun z => isNumber_v (divQ x y) z
  have i4 := fun z => isNumber_v (divR x y) z
  rw [hq] at i3
  rw [hr] at i4
  have sqy := sm2_times sq sy (by decide) (by decide)
  have d1 := fun z => times_v (divQ x y) y (sm2_mono sq (by decide)) (sm2_mono sy (by decide)) z
  have d2 : ∀ z, Calls Tryd.prog 46 #[.agg (gv x), .agg (gv (timesG (divQ x y) y))] z fun e w' => e = .returned (.agg #[.int .i64 (divR x y).1, .int .i64 (divR x y).2]) ∧ Keeps z w' :=
    fun z => minusB_v x (timesG (divQ x y) y) (sm2_mono sx (by decide)) (sm2_mono sqy (by decide)) z
  clear hx hy hy0 hN hq hr sx sy sq st sn sqy
  obtain ⟨X, hX⟩ : ∃ X, (((w.alloc (.cells #[.int .i64 x.1, .int .i64 x.2] 24)).alloc (.cells #[.int .i64 y.1, .int .i64 y.2] 24)).alloc (.cells #[.int .i64 0, .int .i64 0] 24)).alloc (.cells #[.int .i64 0, .int .i64 0] 24) = X := ⟨_, rfl⟩
  have hXs : X.heap.size = w.heap.size + 4 := by rw [← hX]; simp
  have h0 : At X w.heap.size 24 (gv x) := by rw [← hX]; exact (((At.new w _ _).alloc _).alloc _).alloc _
  have h1 : At X (w.heap.size + 1) 24 (gv y) := by rw [← hX]; exact ((At.new2 w _ _ _).alloc _).alloc _
  have h2 : At X (w.heap.size + 1 + 1) 24 (gv (0, 0)) := by rw [← hX]; exact (At.new3 w _ _ _ _).alloc _
  have h3 : At X (w.heap.size + 1 + 1 + 1) 24 (gv (0, 0)) := by rw [← hX]; exact At.new' _ _ (by simp) _ _
  have hk : Keeps w X := by rw [← hX]; exact Keeps.alloc (Keeps.alloc (Keeps.alloc (Keeps.alloc (Below.refl _ _) _) _) _) _
  have HX := Lib.hid hX
  have HXs := Lib.hid hXs
  clear hX hXs
  change Calls Tryd.prog 28 #[.agg #[.int .i64 x.1, .int .i64 x.2], .agg #[.int .i64 y.1, .int .i64 y.2]] w _
  go_enter Tryd.func28, Tryd.ntmps28
  go_upto_region 1 with (fail)
  rw [HX.out]
  go_cut [23] (fun v23 wr => v23 = .bool false ∧ Keeps X wr)
  case first =>
    clear c1 c2 c3 n1 n2 i3 i4 d1 d2
    cases b1 <;> cases b2
    case true.true => simp at hb
    all_goals
      go_wp2_with (first
        | (refine load_row_w rfl 24 _ rfl w.heap.size rfl 24 _ _ _ h0 Tryd.underlying24 rfl (sizeV _) ?_)
        | (refine load_row_w rfl 24 _ rfl (w.heap.size + 1) rfl 24 _ _ _ j1 Tryd.underlying24 rfl (sizeV _) ?_)
        | (refine load_row_w rfl 24 _ rfl (w.heap.size + 1) rfl 24 #[.int .i64 y.1, .int .i64 y.2] _ _ k1 Tryd.underlying24 rfl (sizeV _) ?_)
        | (go_at_call 38; (with_reducible refine (i1 _).mono ?_); rintro e w1 ⟨rfl, hb1⟩; have j1 := h1.later hb1; clear i1)
        | (go_at_call 38; (with_reducible refine (i2 _).mono ?_); rintro e w2 ⟨rfl, hb2⟩; have k1 := j1.later hb2; clear i2))
      go_meet
      exact ⟨rfl, Keeps.next hb1 hb2⟩
  case rest =>
  obtain ⟨rfl, hX2⟩ := hcut
  generalize wc = w2 at *
  clear i1 i2 hb1' hb2' hb
  go_upto_region 3 with (fail)
  have k0 := h0.later hX2
  have k1 := h1.later hX2
  obtain ⟨q1, q2⟩ := cells_gv k0
  obtain ⟨q3, q4⟩ := cells_gv k1
  clear h0 h1
  have Sof : ∀ W, Keeps w2 W → (W.cell? ⟨w.heap.size, 0, none⟩ = some (.int .i64 x.1) ∧ W.cell? ⟨w.heap.size, 1, none⟩ = some (.int .i64 x.2) ∧ W.cell? ⟨w.heap.size + 1, 0, none⟩ = some (.int .i64 y.1) ∧ W.cell? ⟨w.heap.size + 1, 1, none⟩ = some (.int .i64 y.2)) :=
    fun W h => ⟨cell_keep (w := w2) q1 h, cell_keep (w := w2) q2 h, cell_keep (w := w2) q3 h, cell_keep (w := w2) q4 h⟩
  have SOf := Lib.hid Sof
  have kk : Keeps w2 w2 := Below.refl _ _
  clear Sof
  go_cut [7, 8] (fun v7 v8 wr => ∃ g, v7 = .pointer (some ⟨g, 0, none⟩) ∧ v8 = .int .i64 (normG y) ∧ At wr g 24 (gv (timesG x (mateG y))) ∧ w2.heap.size ≤ g ∧ Keeps w2 wr)
  case first =>
    go_region_held3 (fun w' => w'.cell? ⟨w.heap.size, 0, none⟩ = some (.int .i64 x.1) ∧ w'.cell? ⟨w.heap.size, 1, none⟩ = some (.int .i64 x.2) ∧ w'.cell? ⟨w.heap.size + 1, 0, none⟩ = some (.int .i64 y.1) ∧ w'.cell? ⟨w.heap.size + 1, 1, none⟩ = some (.int .i64 y.2))
      (first | exact SOf.out _ (Keeps.dr kk) | exact SOf.out _ (Keeps.dr (Keeps.alloc kk _)) | exact SOf.out _ kk | exact SOf.out _ (Keeps.alloc kk _) | exact SOf.out _ (Keeps.set (Keeps.set kk _ hgl _ _) _ hgl _ _) | fail)
      (first
        | (go_at_call 47
           refine (c1 _).mono ?_
           rintro e w3 ⟨rfl, hb3⟩
           first | (have hz := At.laidD hb3; have hgl := kk.size; have kk := Keeps.next (Keeps.dr (Keeps.alloc kk _)) hb3) | (have kk := Keeps.next (Keeps.dr kk) hb3))
        | (go_at_call 41
           refine (c2 _).mono ?_
           rintro e w4 ⟨rfl, hb4⟩
           first | (have hz := At.laid hb4; have hgl := kk.size; have kk := Keeps.next (Keeps.alloc kk _) hb4) | (have hz := hz.later hb4; have kk := Keeps.next kk hb4) | (have kk := Keeps.next kk hb4))
        | (go_at_call 48
           refine (c3 _).mono ?_
           rintro e w5 ⟨rfl, hb5⟩
           first | (have hz := At.laid hb5; have hgl := kk.size; have kk := Keeps.next (Keeps.alloc kk _) hb5; obtain ⟨r50, r51, f50, f51⟩ := zero_at hz) | (have hz := hz.later hb5; have kk := Keeps.next kk hb5; obtain ⟨r50, r51, f50, f51⟩ := zero_at hz) | (have kk := Keeps.next kk hb5)))
    all_goals
      go_wp2_with fail
      go_meet
      first
        | exact ⟨_, rfl, rfl, At.new _ _ _, kk.size, Keeps.alloc kk _⟩
        | exact ⟨_, rfl, rfl, (hz.set 0 _).set 1 _, hgl, Keeps.set (Keeps.set kk _ hgl _ _) _ hgl _ _⟩
  case rest =>
    obtain ⟨g, rfl, rfl, hT, hg2, hkT⟩ := hcut
    generalize wc = wd at *
    clear c1 c2 c3 kk q1 q2 q3 q4
    obtain ⟨p1, p2⟩ := cells_gv hT
    have Sof : ∀ W, Keeps wd W → (W.cell? ⟨g, 0, none⟩ = some (.int .i64 (timesG x (mateG y)).1) ∧ W.cell? ⟨g, 1, none⟩ = some (.int .i64 (timesG x (mateG y)).2)) :=
      fun W h => ⟨cell_keep (w := wd) p1 h, cell_keep (w := wd) p2 h⟩
    have SOf := Lib.hid Sof
    have kk : Keeps wd wd := Below.refl _ _
    clear Sof
    go_upto_region 4 with (fail)
    go_cut [9] (fun v9 wr => ∃ g', v9 = .pointer (some ⟨g', 0, none⟩) ∧ At wr g' 24 (gv (divQ x y)) ∧ wd.heap.size ≤ g' ∧ Keeps wd wr)
    case first =>
      go_region_held3 (fun w' => w'.cell? ⟨g, 0, none⟩ = some (.int .i64 (timesG x (mateG y)).1) ∧ w'.cell? ⟨g, 1, none⟩ = some (.int .i64 (timesG x (mateG y)).2))
        (first | exact SOf.out _ (Keeps.dr kk) | exact SOf.out _ (Keeps.dr (Keeps.alloc kk _)) | fail)
        (first
          | (go_at_call 49; (with_reducible refine (n1 _).mono ?_); rintro e w6 ⟨rfl, rfl⟩)
          | (go_at_call 49; (with_reducible refine (n2 _).mono ?_); rintro e w6 ⟨rfl, rfl⟩))
      all_goals
        go_wp2_with fail
        go_meet
        exact ⟨_, rfl, (At.new _ _ _).drew, Nat.le_refl _, Keeps.dr (Keeps.alloc kk _)⟩
    case rest =>
      obtain ⟨g', rfl, hQ, hgQ, hkQ⟩ := hcut
      have hkW : Keeps w2 wc := Keeps.next hkT hkQ
      have x0 := k0.later hkW
      have y0 := k1.later hkW
      have r4 := (h2.later hX2).later hkW
      have r5 := (h3.later hX2).later hkW
      have hwk : Keeps w wc := Keeps.next (Keeps.next hk hX2) hkW
      have hg5 : w.heap.size + 4 ≤ g' := by have := HXs.out; have := hX2.size; have := hkT.size; omega
      clear hkT p1 p2 SOf kk n1 n2 k0 k1 h2 h3 hX2 hk HX HXs hkQ hkW hgQ hT hg2
      generalize wc = wd2 at *
      go_upto_region 7 with (first
        | (refine load_row_w rfl 24 _ rfl g' rfl 24 _ _ _ hQ Tryd.underlying24 rfl (sizeV _) ?_)
        | (go_at_call 38; refine (i3 _).mono ?_; rintro e w3 ⟨rfl, hb3⟩))
      obtain ⟨p1, p2⟩ := cells_gv (x0.later hb3)
      obtain ⟨p3, p4⟩ := cells_gv (y0.later hb3)
      obtain ⟨p5, p6⟩ := cells_gv (hQ.later hb3)
      have Sof : ∀ W, Keeps w3 W → (W.cell? ⟨w.heap.size, 0, none⟩ = some (.int .i64 x.1) ∧ W.cell? ⟨w.heap.size, 1, none⟩ = some (.int .i64 x.2) ∧ W.cell? ⟨w.heap.size + 1, 0, none⟩ = some (.int .i64 y.1) ∧ W.cell? ⟨w.heap.size + 1, 1, none⟩ = some (.int .i64 y.2) ∧ W.cell? ⟨g', 0, none⟩ = some (.int .i64 (divQ x y).1) ∧ W.cell? ⟨g', 1, none⟩ = some (.int .i64 (divQ x y).2)) :=
        fun W h => ⟨cell_keep (w := w3) p1 h, cell_keep (w := w3) p2 h, cell_keep (w := w3) p3 h, cell_keep (w := w3) p4 h, cell_keep (w := w3) p5 h, cell_keep (w := w3) p6 h⟩
      have SOf := Lib.hid Sof
      have kk : Keeps w3 w3 := Below.refl _ _
      clear Sof p1 p2 p3 p4 p5 p6
      go_cut [10] (fun v10 wr => ∃ h, v10 = .pointer (some ⟨h, 0, none⟩) ∧ At wr h 24 (gv (divR x y)) ∧ w3.heap.size ≤ h ∧ Keeps w3 wr)
      case first =>
        go_region_held3 (fun w' => w'.cell? ⟨w.heap.size, 0, none⟩ = some (.int .i64 x.1) ∧ w'.cell? ⟨w.heap.size, 1, none⟩ = some (.int .i64 x.2) ∧ w'.cell? ⟨w.heap.size + 1, 0, none⟩ = some (.int .i64 y.1) ∧ w'.cell? ⟨w.heap.size + 1, 1, none⟩ = some (.int .i64 y.2) ∧ w'.cell? ⟨g', 0, none⟩ = some (.int .i64 (divQ x y).1) ∧ w'.cell? ⟨g', 1, none⟩ = some (.int .i64 (divQ x y).2))
          (first | exact SOf.out _ (Keeps.dr kk) | exact SOf.out _ (Keeps.dr (Keeps.alloc kk _)) | exact SOf.out _ kk | exact SOf.out _ (Keeps.alloc kk _) | exact SOf.out _ (Keeps.set (Keeps.set kk _ hgl _ _) _ hgl _ _) | fail)
          (first
            | (go_at_call 41
               refine (d1 _).mono ?_
               rintro e w4 ⟨rfl, hb4⟩
               first | (have hz := At.laidD hb4; have hgl := kk.size; have kk := Keeps.next (Keeps.dr (Keeps.alloc kk _)) hb4) | (have kk := Keeps.next (Keeps.dr kk) hb4))
            | (go_at_call 46
               refine (d2 _).mono ?_
               rintro e w5 ⟨rfl, hb5⟩
               first | (have hz := At.laid hb5; have hgl := kk.size; have kk := Keeps.next (Keeps.alloc kk _) hb5; obtain ⟨r50, r51, f50, f51⟩ := zero_at hz) | (have hz := hz.later hb5; have kk := Keeps.next kk hb5; obtain ⟨r50, r51, f50, f51⟩ := zero_at hz) | (have kk := Keeps.next kk hb5)))
        all_goals
          go_wp2_with fail
          go_meet
          first
            | exact ⟨_, rfl, At.new _ _ _, kk.size, Keeps.alloc kk _⟩
            | exact ⟨_, rfl, (hz.set 0 _).set 1 _, hgl, Keeps.set (Keeps.set kk _ hgl _ _) _ hgl _ _⟩
      case rest =>
        obtain ⟨h, rfl, hR, hgR, hkR⟩ := hcut
        have hk3 : Keeps wd2 wc := Keeps.next hb3 hkR
        have q0 := hQ.later hk3
        have r4 := r4.later hk3
        have r5 := r5.later hk3
        have hwk := Keeps.next hwk hk3
        have hh5 : w.heap.size + 4 ≤ h := by have := hQ.lt; have := hb3.size; omega
        have hgh : g' < h := by have := hQ.lt; have := hb3.size; omega
        clear hk3 hkR hgR hb3 hQ x0 y0 kk SOf d1 d2 i3
        generalize wc = wd3 at *
        go_upto_region 10 with (first
          | (refine load_row_w rfl 24 _ rfl h rfl 24 _ _ _ hR Tryd.underlying24 rfl (sizeV _) ?_)
          | (go_at_call 38; refine (i4 _).mono ?_; rintro e w6 ⟨rfl, hb6⟩))
        have q6 := q0.later hb6
        have h6 := hR.later hb6
        have r46 := r4.later hb6
        have r56 := r5.later hb6
        have hw6 := Keeps.next hwk hb6
        obtain ⟨p1, p2⟩ := cells_gv q6
        obtain ⟨p3, p4⟩ := cells_gv h6
        obtain ⟨z1, z2, z3, z4⟩ := zero_at r46
        obtain ⟨z5, z6, z7, z8⟩ := zero_at r56
        have n1 : w.heap.size + 1 + 1 ≠ w.heap.size + 1 + 1 + 1 := by omega
        have n2 : w.heap.size + 1 + 1 + 1 ≠ w.heap.size + 1 + 1 := by omega
        have n3 : g' ≠ w.heap.size + 1 + 1 := by omega
        have n4 : g' ≠ w.heap.size + 1 + 1 + 1 := by omega
        have n5 : h ≠ w.heap.size + 1 + 1 := by omega
        have n6 : h ≠ w.heap.size + 1 + 1 + 1 := by omega
        have Sof : ∀ W, (Holds (fun r => r = g' ∨ r = h) w6 W) → (W.cell? ⟨g', 0, none⟩ = some (.int .i64 (divQ x y).1) ∧ W.cell? ⟨g', 1, none⟩ = some (.int .i64 (divQ x y).2) ∧ W.cell? ⟨h, 0, none⟩ = some (.int .i64 (divR x y).1) ∧ W.cell? ⟨h, 1, none⟩ = some (.int .i64 (divR x y).2)) := fun W hh => by
          obtain ⟨a1, a2⟩ := cells_gv (q6.holds hh (.inl rfl))
          obtain ⟨a3, a4⟩ := cells_gv (h6.holds hh (.inr rfl))
          exact ⟨a1, a2, a3, a4⟩
        have SOf := Lib.hid Sof
        clear Sof
        go_cut [6] (fun v6 wr => v6 = .int .i64 0 ∧ At wr (w.heap.size + 1 + 1) 24 (gv (divQ x y)) ∧ At wr (w.heap.size + 1 + 1 + 1) 24 (gv (divR x y)) ∧ Keeps w wr)
        case first =>
          go_region_held3 (fun w' => w'.cell? ⟨g', 0, none⟩ = some (.int .i64 (divQ x y).1) ∧ w'.cell? ⟨g', 1, none⟩ = some (.int .i64 (divQ x y).2) ∧ w'.cell? ⟨h, 0, none⟩ = some (.int .i64 (divR x y).1) ∧ w'.cell? ⟨h, 1, none⟩ = some (.int .i64 (divR x y).2))
            (first
              | exact SOf.out _ (Holds.drew (Holds.refl _ _))
              | exact SOf.out _ (((Holds.drew (Holds.refl _ _)).set _ (by simp; omega) _).set _ (by simp; omega) _)
              | exact SOf.out _ (((((Holds.drew (Holds.refl _ _)).set _ (by simp; omega) _).set _ (by simp; omega) _).set _ (by simp; omega) _).set _ (by simp; omega) _)
              | exact SOf.out _ ((((Holds.refl _ _).set _ (by simp; omega) _).set _ (by simp; omega) _).drew)
              | exact SOf.out _ ((((((Holds.refl _ _).set _ (by simp; omega) _).set _ (by simp; omega) _).set _ (by simp; omega) _).set _ (by simp; omega) _).drew)
              | fail)
            (first | fail)
          go_wp2_with fail
          go_meet
          exact ⟨rfl, ((((r46.set 0 _).set 1 _).far (by simp) _).far (by simp) _).drew, ((((r56.far (by simp) _).far (by simp) _).set 0 _).set 1 _).drew, Keeps.dr (Keeps.set (Keeps.set (Keeps.set (Keeps.set hw6 _ (by omega) _ _) _ (by omega) _ _) _ (by omega) _ _) _ (by omega) _ _)⟩
        case rest =>
          obtain ⟨rfl, ha, hb, hkk⟩ := hcut
          go_wp2_with fail
          exact bodyPost_ret (results_two Tryd.results28 _ _ _ _ _ _ _ _ _ rfl rfl ha hb Tryd.underlying24 rfl (sizeV _) (sizeV _)) rfl ⟨rfl, hkk⟩
end Go.Proofs.YtfekggmdhmkemaaDoor
