/- The walk of digits.value. -/
import Derived.Test.YtfekggmdhmkemaaDoorGd
import Derived.Test.YtfekggmdhmkemaaDoorGj
namespace Go.Proofs.YtfekggmdhmkemaaDoor
open Go.RowKit Go.Shelf
set_option linter.unusedVariables false
set_option linter.unusedSimpArgs false
attribute [local go_sem] Oper.semAt_some

theorem si_store_row {F : Fence} {n : Nat} {P : Program} {ops : Array Oper} {o : Oper} {a : Act} {w : World} {K : Act → World → Prop} {Q : Exit → Act → World → Prop} {E : Prop} (hgd : o.guard = none) (ty : TypeId) (x y : Operand) (ho : o.op = .store ty x y)
    (g : Nat) (cells : Array Value) (hx : a.eval x = .pointer (some ⟨g, 0, none⟩)) (hy : a.eval y = .agg cells)
    (t : TypeId) (old : Array Value) (hg : At w g t old) (hi : (P.info? ty).map (·.size) = some cells.size)
    (hold : old.size = cells.size) (h1 : cells.all (·.oneCell') = true)
    (h : K (a.put o.dst undef) (w.setRow g cells)) : if Region.wanted o (yielded ops a.tmps) = true then Oper.wpIn F n P o a w K Q else E := by
  have hw : Region.wanted o (yielded ops a.tmps) = true := by simp [Region.wanted, hgd]
  rw [if_pos hw]
  unfold Oper.wpIn
  refine ⟨?_, ?_⟩
  · simp [Oper.about, ho]
  · rw [Oper.semAt_plain F _ _ (by rw [ho]; intro c hc'; cases hc')]
    simp only [execOp, ho, hx, hy, Instr.storeAt, Instr.sureAddr, Sem.run_bind, Sem.run_pure, Result.andThen_ok, run_storeVar_row w g t ty old cells hg hi hold h1]
    exact h
def plusG (x y : Int × Int) : Int × Int := (x.1 + y.1, x.2 + y.2)
theorem plus_v (x y : Int × Int) (h : sm2 1000000000000 x) (h' : sm2 1000000000000 y) (w : World) : Calls Tryd.prog 32 #[.agg (gv x), .agg (gv y)] w fun e w' => e = .returned (.agg (gv (plusG x y))) ∧ Keeps w w' := plus_c x.1 x.2 y.1 y.2 h.1 h.2 h'.1 h'.2 w
/-- The digit at an exponent; the value of a row of digits, so far. -/
def digA (l : List UInt8) (e : Int) : Int := ((l[(39 - e).toNat]?.getD 0).toNat : Int) - 48
def valS (l : List UInt8) (s : Int × Int) (e : Int) : Int × Int := plusG s (timesG (digA l e, 0) (pw e))
def valJ (l : List UInt8) (j : Nat) : Int × Int := ((pdn 39 80).take j).foldl (valS l) (0, 0)
def valG (l : List UInt8) : Int × Int := valJ l 80
theorem valJ_succ (l : List UInt8) (j : Nat) (h : j < 80) : valJ l (j + 1) = valS l (valJ l j) (39 - j) := by
  rw [valJ, pdn_take _ _ _ h, List.foldl_append]; rfl
theorem okD_toNat (c : UInt8) (h : okD c) : 48 ≤ (c.toNat : Int) ∧ (c.toNat : Int) ≤ 51 := by
  rcases h with rfl | rfl | rfl | rfl <;> decide
theorem valJ_in (l : List UInt8) (hl : l.length = 80) (hok : ∀ c ∈ l, okD c) (j : Nat) (hj : j ≤ 80) : sm2 (j * 3000000000) (valJ l j) := by
  induction j with
  | zero => simp [valJ, sm2, sm]
  | succ j ih =>
    have ih := ih (by omega)
    rw [valJ_succ l j (by omega)]
    have hp := pw_sm (39 - j) (by omega) (by omega)
    have hm : (39 - (39 - (j : Int))).toNat = j := by omega
    have hd : 48 ≤ ((l[j]?.getD 0).toNat : Int) ∧ ((l[j]?.getD 0).toNat : Int) ≤ 51 := by
      rw [List.getElem?_eq_getElem (show j < l.length by omega)]
      exact okD_toNat _ (hok _ (List.getElem_mem _))
    have hdd : sm2 3 (digA l (39 - j), 0) := by unfold sm2 sm digA; rw [hm]; simp only; omega
    have ht := sm2_times hdd (y := pw (39 - j)) ⟨hp.1, hp.2⟩ (by decide) (by decide)
    unfold valS plusG sm2 sm at *
    simp only
    omega
set_option maxHeartbeats 4000000 in
set_option maxRecDepth 100000 in
theorem value_c (l : List UInt8) (hl : l.length = 80) (hok : ∀ c ∈ l, okD c) (w : World) :
    Calls Tryd.prog 23 #[.agg (dB l)] w fun e w' => e = .returned (.agg (gv (valG l))) ∧ Keeps w w' := by
  refine (callsIn_wide (n := 5)).1 ?_
  refine callsIn_of_wp_marks Tryd.func23 rfl trivial ?_ rfl
  simp only [Tryd.ntmps23, List.size_toArray, List.length_cons, List.length_nil, Nat.reduceAdd, Nat.reduceSub, Array.replicate_succ, Array.replicate_zero, List.push_toArray, List.append_toArray, List.nil_append, List.cons_append]
  have hA0 := At.new3 w (.cells (dB l) 44) (.cells #[.int .i64 0, .int .i64 0] 24) 24 (gv (0, 0))
  gi_wp2_with (refine in_store_row rfl 24 _ _ rfl (w.heap.size + 1 + 1) (gv (0, 0)) rfl rfl 24 (gv (0, 0)) hA0 (sizeV _) rfl (oneV _) ?_)
  refine ⟨trivial, (callsIn_wide.2 (powers_c 39 (-40) _)).mono ?_⟩
  rintro e w2 ⟨rfl, rfl⟩
  gi_wp2_with fail
  obtain ⟨Y, hY⟩ : ∃ Y, (((((w.alloc (.cells (dB l) 44)).alloc (.cells #[.int .i64 0, .int .i64 0] 24)).alloc (.cells #[.int .i64 0, .int .i64 0] 24)).setRow (w.heap.size + 1 + 1) (gv (0, 0))).alloc (.cells #[.int .i64 39] 3)).alloc (.cells #[.int .i64 (-40)] 3) = Y := ⟨_, rfl⟩
  have hYs : Y.heap.size = w.heap.size + 5 := by rw [← hY]; simp
  have hdY : At Y w.heap.size 44 (dB l) := by rw [← hY]; exact (((((At.new w _ _).alloc _).alloc _).rowfar (by omega) _).alloc _).alloc _
  have hrY : At Y (w.heap.size + 1) 24 (gv (0, 0)) := by rw [← hY]; exact ((((At.new2 w _ _ _).alloc _).rowfar (by omega) _).alloc _).alloc _
  have hsY : At Y (w.heap.size + 1 + 1) 24 (gv (0, 0)) := by rw [← hY]; exact ((hA0.row (gv (0, 0))).alloc _).alloc _
  have h39 : At Y (w.heap.size + 1 + 1 + 1) 3 #[.int .i64 39] := by rw [← hY]; exact (At.new' _ _ (by simp) _ _).alloc _
  have h40 : At Y (w.heap.size + 1 + 1 + 1 + 1) 3 #[.int .i64 (-40)] := by rw [← hY]; exact At.new' _ _ (by simp) _ _
  have hkY : Keeps w Y := by rw [← hY]; exact Keeps.alloc (Keeps.alloc (below_row (Keeps.alloc (Keeps.alloc (Keeps.alloc (Below.refl _ _) _) _) _) (by omega) _) _) _
  rw [hY]
  clear hY hA0
  refine range_mine (pdn 39 80) (gf := 54) (lb := #[.pointer (some ⟨w.heap.size + 1 + 1 + 1, 0, none⟩), .pointer (some ⟨w.heap.size + 1 + 1 + 1 + 1, 0, none⟩)]) rfl (enters_of Tryd.func54 (by kernel_rfl) rfl)
    (powers_iter 39 (-40) (by decide) (by decide) (by decide) (w.heap.size + 1 + 1 + 1) (w.heap.size + 1 + 1 + 1 + 1) (fun r => r = w.heap.size + 1 + 1 + 1 ∨ r = w.heap.size + 1 + 1 + 1 + 1) (.inl rfl) (.inr rfl) Y (fun r h => by omega) h39 h40)
    (fun _ _ => rfl) (fun r h => by omega) (fun _ _ _ _ _ _ => trivial)
    (fun j _ Z => At Z w.heap.size 44 (dB l) ∧ At Z (w.heap.size + 1 + 1) 24 (gv (valJ l j)) ∧ At Z (w.heap.size + 1) 24 (gv (0, 0)) ∧ Below w.heap.size w Z) (fun _ _ _ => False)
    (fun j M Z Z' h hh => ⟨h.1.holds hh (.inl (by omega)), h.2.1.holds hh (.inl (by omega)), h.2.2.1.holds hh (.inl (by omega)), ((Holds.of_below h.2.2.2).trans2 hh (fun r _ h => .inl (by omega))).below (Nat.le_refl _)⟩) (fun _ _ _ _ h _ => h) ⟨hdY, hsY, hrY, hkY⟩
    (fun x a' Z => ∃ b5, Y.heap.size + 2 ≤ b5 ∧ At Z b5 24 (gv (pw x)) ∧ a' = { tmps := #[.agg (dB l), .pointer (some ⟨w.heap.size, 0, none⟩), .pointer (some ⟨w.heap.size + 1, 0, none⟩), .pointer (some ⟨w.heap.size + 1 + 1, 0, none⟩), .int .i64 x, .pointer (some ⟨b5, 0, none⟩), undef, .agg #[.int .i64 0, .int .i64 0],
      .func (.func 54) #[] #[.pointer (some ⟨w.heap.size + 1 + 1 + 1, 0, none⟩), .pointer (some ⟨w.heap.size + 1 + 1 + 1 + 1, 0, none⟩)], .int .i64 x, .agg (gv (pw x)), undef, undef, undef, undef, undef, undef, undef, undef, undef, undef, undef, undef, undef], defers := [] })
    (fun x a Z Z' hh ⟨b5, h1, h2, h3⟩ => ⟨b5, h1, h2.holds hh (by omega), h3⟩) ?assign ?body ?done ?stop
  case assign =>
    intro l' j x M1 Z _ _ _ hsz
    have HYs := Lib.hid hYs
    clear hYs
    simp only [encP]
    gi_wp2_with (refine in_store_row rfl 24 _ _ rfl Z.heap.size (gv (pw x)) rfl rfl 24 (gv (0, 0)) (At.new Z 24 _) (sizeV _) rfl (oneV _) ?_)
    refine ⟨Holds.mono (Holds.row (K := fun r => r ≠ Z.heap.size) ((Holds.refl _ Z).alloc _) _ (by simp) _) (fun r hr _ => by omega), Z.heap.size, hsz, (At.new Z 24 (gv (0, 0))).row _, rfl⟩
  case body =>
    rintro l' j x M1 a' Z hx ⟨hd, hs, hr, hbel⟩ hM1 hKin _ ⟨b5, hb5, hp, rfl⟩ hsz
    obtain ⟨hj, rfl⟩ := pdn_of _ _ _ _ hx
    have hin := valJ_in l hl hok j (by omega)
    have hps := pw_sm (39 - j) (by omega) (by omega)
    have hm : (39 - (39 - (j : Int))).toNat = j := by omega
    have hq : 48 ≤ ((l[j]?.getD 0).toNat : Int) ∧ ((l[j]?.getD 0).toNat : Int) ≤ 51 := by
      rw [List.getElem?_eq_getElem (show j < l.length by omega)]
      exact okD_toNat _ (hok _ (List.getElem_mem _))
    have hdd : sm2 3 (((l[j]?.getD 0).toNat : Int) - 48, 0) := by unfold sm2 sm; simp only; omega
    have ht := sm2_times hdd (y := pw (39 - j)) ⟨hps.1, hps.2⟩ (by decide) (by decide)
    have htimes := fun y => times_v (((l[j]?.getD 0).toNat : Int) - 48, 0) (pw (39 - j)) (sm2_mono hdd (by decide)) (sm2_mono (show sm2 300000000 _ from ⟨hps.1, hps.2⟩) (by decide)) y
    have hplus := fun y => plus_v (valJ l j) (timesG (((l[j]?.getD 0).toNat : Int) - 48, 0) (pw (39 - j))) (sm2_mono hin (by omega)) (sm2_mono ht (by decide)) y
    have hsc : valJ l (j + 1) = plusG (valJ l j) (timesG (((l[j]?.getD 0).toNat : Int) - 48, 0) (pw (39 - j))) := by
      rw [valJ_succ l j hj]; unfold valS digA; rw [hm]
    have hpl := fun y => place_c (39 - j) (by omega) (by omega) y
    rw [show 39 - (39 - (j : Int)) = j by omega] at hpl
    have cd : Z.cell? ⟨w.heap.size, j, none⟩ = some (.int .u8 ((l[j]?.getD 0).toNat : Int)) := by
      rw [hd.cell]; simp [dB, bytes, List.getElem?_eq_getElem (show j < l.length by omega)]
    obtain ⟨q1, q2⟩ := hq
    have hj80 : (j : Int) < 80 := by omega
    have hsz1 := hd.lt
    have hsz2 := hs.lt
    have Hsc := Lib.hid hsc
    have HYs := Lib.hid hYs
    clear hYs hx hm hdd ht hps hin hsc
    generalize ((l[j]?.getD 0).toNat : Int) = q at *
    have hsub : IntKind.u8.wrap (q - 48) = q - 48 := IntWalk.u8_in _ (by omega)
    have hcv : IntKind.i64.wrap (q - 48) = q - 48 := IntWalk.i64_in _ (by omega)
    generalize pw (39 - (j : Int)) = pp at *
    gi_wp2_with fail
    refine ⟨trivial, ((callsIn_wide.2 (hpl _)).inRound l').mono ?_⟩
    rintro e w1 ⟨rfl, rfl⟩
    gi_wp2_with (refine in_store_row rfl 24 _ _ rfl Z.heap.size (gv (q - 48, 0)) rfl rfl 24 (gv (0, 0)) (At.new Z 24 _) (sizeV _) rfl (oneV _) ?_)
    have hkZ : Keeps Z ((Z.alloc (.cells (gv (0, 0)) 24)).setRow Z.heap.size (gv (q - 48, 0))) := below_row (Keeps.alloc (Below.refl _ _) _) (Nat.le_refl _) _
    have g1 := (At.new Z 24 (gv (0, 0))).row (gv (q - 48, 0))
    rw [← gv_zero] at hkZ g1
    generalize (Z.alloc (.cells #[.int .i64 0, .int .i64 0] 24)).setRow Z.heap.size (gv (q - 48, 0)) = Z1 at *
    have t6e : ∃ t6, t6 = Z.heap.size := ⟨_, rfl⟩
    obtain ⟨t6, ht6⟩ := t6e
    rw [← ht6] at g1
    have s1 := (hs.later hkZ).drew
    have p1 := (hp.later hkZ).drew
    have g1 := g1.drew
    have fin : ∀ w5 w6 : World, Keeps Z1.drew w5 → Keeps w5 w6 → ∀ a, bodyOk Y.heap.size (fun r => r = w.heap.size + 1 + 1 + 1 ∨ r = w.heap.size + 1 + 1 + 1 + 1)
        (fun j _ Z => At Z w.heap.size 44 (dB l) ∧ At Z (w.heap.size + 1 + 1) 24 (gv (valJ l j)) ∧ At Z (w.heap.size + 1) 24 (gv (0, 0)) ∧ Below w.heap.size w Z) (fun _ _ _ => False) j M1 Z .normal a (w6.setRow (w.heap.size + 1 + 1) (gv (plusG (valJ l j) (timesG (q - 48, 0) pp)))) := by
      intro w5 w6 hw5 hw6 a
      have hYs := HYs.out
      have hk6 : Keeps Z w6 := Keeps.next (Keeps.next (Keeps.dr hkZ) hw5) hw6
      have hz6 := hk6.size
      refine ⟨M1, fun r hr => Nat.lt_of_lt_of_le (hM1 r hr).2 (by simp; omega), fun r h => .inl h, (Holds.of_keeps hk6 _).row _ (by omega) _, (hd.later hk6).rowfar (by omega) _, ?_, (hr.later hk6).rowfar (by omega) _, below_row (hbel.trans (hk6.mono hbel.size)) (by omega) _⟩
      rw [Hsc.out]
      exact (hs.later hk6).row _
    rw [← ht6]
    clear hpl cd hsub hcv q1 q2 hj80 ht6
    refine wpIn_region_any (by kernel_rfl) ?_
    change wpAnyIn _ _ _ _ _ _ _ _ _ (World.drew _)
    refine wpAnyIn_ready (rs := [0, 1, 2]) (by kernel_rfl) (by simp) ?_
    refine AllReadyIn.cons rfl (fun Kc hKc => ?_) ?_
    · refine si_load_row rfl 24 _ rfl (w.heap.size + 1 + 1) rfl 24 _ _ (by first | exact s1 | exact s2) Tryd.underlying24 rfl (sizeV _) ?_
      refine hKc _ _ ?_
      clear hKc Kc
      refine wpAnyIn_ready (rs := [1, 2]) (by kernel_rfl) (by simp) ?_
      refine AllReadyIn.cons rfl (fun Kc hKc => ?_) ?_
      · refine si_load_row rfl 24 _ rfl t6 rfl 24 _ _ g1 Tryd.underlying24 rfl (sizeV _) ?_
        refine hKc _ _ ?_
        clear hKc Kc
        refine wpAnyIn_ready (rs := [2]) (by kernel_rfl) (by simp) ?_
        refine AllReadyIn.cons rfl (fun Kc hKc => ?_) ?_
        · refine si_load_row rfl 24 _ rfl b5 rfl 24 _ _ p1 Tryd.underlying24 rfl (sizeV _) ?_
          refine hKc _ _ ?_
          clear hKc Kc
          refine wpAnyIn_ready (rs := [3]) (by kernel_rfl) (by simp) ?_
          refine AllReadyIn.cons rfl (fun Kc hKc => ?_) ?_
          · go_simp
            refine ⟨trivial, ((callsIn_wide.2 (htimes _)).inRound l').mono ?_⟩
            rintro e w5 ⟨rfl, hb5'⟩
            have s2 := s1.later hb5'
            refine hKc _ _ ?_
            clear hKc Kc
            refine wpAnyIn_ready (rs := [4]) (by kernel_rfl) (by simp) ?_
            refine AllReadyIn.cons rfl (fun Kc hKc => ?_) ?_
            · go_simp
              refine ⟨trivial, ((callsIn_wide.2 (hplus _)).inRound l').mono ?_⟩
              rintro e w6 ⟨rfl, hb6⟩
              refine hKc _ _ ?_
              clear hKc Kc
              refine wpAnyIn_ready (rs := [5]) (by kernel_rfl) (by simp) ?_
              refine AllReadyIn.cons rfl (fun Kc hKc => ?_) ?_
              · refine si_store_row rfl 24 _ _ rfl (w.heap.size + 1 + 1) (gv (plusG (valJ l j) (timesG (q - 48, 0) pp))) rfl rfl 24 _ (s2.later hb6) (sizeV _) rfl (oneV _) ?_
                refine hKc _ _ ?_
                clear hKc Kc
                refine wpAnyIn_done (by kernel_rfl) ?_ _
                gi_wp2_with fail
                exact fin _ _ hb5' hb6 _
              exact AllReadyIn.nil
            exact AllReadyIn.nil
          exact AllReadyIn.nil
        exact AllReadyIn.nil
      refine AllReadyIn.cons rfl (fun Kc hKc => ?_) ?_
      · refine si_load_row rfl 24 _ rfl b5 rfl 24 _ _ p1 Tryd.underlying24 rfl (sizeV _) ?_
        refine hKc _ _ ?_
        clear hKc Kc
        refine wpAnyIn_ready (rs := [1]) (by kernel_rfl) (by simp) ?_
        refine AllReadyIn.cons rfl (fun Kc hKc => ?_) ?_
        · refine si_load_row rfl 24 _ rfl t6 rfl 24 _ _ g1 Tryd.underlying24 rfl (sizeV _) ?_
          refine hKc _ _ ?_
          clear hKc Kc
          refine wpAnyIn_ready (rs := [3]) (by kernel_rfl) (by simp) ?_
          refine AllReadyIn.cons rfl (fun Kc hKc => ?_) ?_
          · go_simp
            refine ⟨trivial, ((callsIn_wide.2 (htimes _)).inRound l').mono ?_⟩
            rintro e w5 ⟨rfl, hb5'⟩
            have s2 := s1.later hb5'
            refine hKc _ _ ?_
            clear hKc Kc
            refine wpAnyIn_ready (rs := [4]) (by kernel_rfl) (by simp) ?_
            refine AllReadyIn.cons rfl (fun Kc hKc => ?_) ?_
            · go_simp
              refine ⟨trivial, ((callsIn_wide.2 (hplus _)).inRound l').mono ?_⟩
              rintro e w6 ⟨rfl, hb6⟩
              refine hKc _ _ ?_
              clear hKc Kc
              refine wpAnyIn_ready (rs := [5]) (by kernel_rfl) (by simp) ?_
              refine AllReadyIn.cons rfl (fun Kc hKc => ?_) ?_
              · refine si_store_row rfl 24 _ _ rfl (w.heap.size + 1 + 1) (gv (plusG (valJ l j) (timesG (q - 48, 0) pp))) rfl rfl 24 _ (s2.later hb6) (sizeV _) rfl (oneV _) ?_
                refine hKc _ _ ?_
                clear hKc Kc
                refine wpAnyIn_done (by kernel_rfl) ?_ _
                gi_wp2_with fail
                exact fin _ _ hb5' hb6 _
              exact AllReadyIn.nil
            exact AllReadyIn.nil
          exact AllReadyIn.nil
        exact AllReadyIn.nil
      exact AllReadyIn.nil
    refine AllReadyIn.cons rfl (fun Kc hKc => ?_) ?_
    · refine si_load_row rfl 24 _ rfl t6 rfl 24 _ _ g1 Tryd.underlying24 rfl (sizeV _) ?_
      refine hKc _ _ ?_
      clear hKc Kc
      refine wpAnyIn_ready (rs := [0, 2]) (by kernel_rfl) (by simp) ?_
      refine AllReadyIn.cons rfl (fun Kc hKc => ?_) ?_
      · refine si_load_row rfl 24 _ rfl (w.heap.size + 1 + 1) rfl 24 _ _ (by first | exact s1 | exact s2) Tryd.underlying24 rfl (sizeV _) ?_
        refine hKc _ _ ?_
        clear hKc Kc
        refine wpAnyIn_ready (rs := [2]) (by kernel_rfl) (by simp) ?_
        refine AllReadyIn.cons rfl (fun Kc hKc => ?_) ?_
        · refine si_load_row rfl 24 _ rfl b5 rfl 24 _ _ p1 Tryd.underlying24 rfl (sizeV _) ?_
          refine hKc _ _ ?_
          clear hKc Kc
          refine wpAnyIn_ready (rs := [3]) (by kernel_rfl) (by simp) ?_
          refine AllReadyIn.cons rfl (fun Kc hKc => ?_) ?_
          · go_simp
            refine ⟨trivial, ((callsIn_wide.2 (htimes _)).inRound l').mono ?_⟩
            rintro e w5 ⟨rfl, hb5'⟩
            have s2 := s1.later hb5'
            refine hKc _ _ ?_
            clear hKc Kc
            refine wpAnyIn_ready (rs := [4]) (by kernel_rfl) (by simp) ?_
            refine AllReadyIn.cons rfl (fun Kc hKc => ?_) ?_
            · go_simp
              refine ⟨trivial, ((callsIn_wide.2 (hplus _)).inRound l').mono ?_⟩
              rintro e w6 ⟨rfl, hb6⟩
              refine hKc _ _ ?_
              clear hKc Kc
              refine wpAnyIn_ready (rs := [5]) (by kernel_rfl) (by simp) ?_
              refine AllReadyIn.cons rfl (fun Kc hKc => ?_) ?_
              · refine si_store_row rfl 24 _ _ rfl (w.heap.size + 1 + 1) (gv (plusG (valJ l j) (timesG (q - 48, 0) pp))) rfl rfl 24 _ (s2.later hb6) (sizeV _) rfl (oneV _) ?_
                refine hKc _ _ ?_
                clear hKc Kc
                refine wpAnyIn_done (by kernel_rfl) ?_ _
                gi_wp2_with fail
                exact fin _ _ hb5' hb6 _
              exact AllReadyIn.nil
            exact AllReadyIn.nil
          exact AllReadyIn.nil
        exact AllReadyIn.nil
      refine AllReadyIn.cons rfl (fun Kc hKc => ?_) ?_
      · refine si_load_row rfl 24 _ rfl b5 rfl 24 _ _ p1 Tryd.underlying24 rfl (sizeV _) ?_
        refine hKc _ _ ?_
        clear hKc Kc
        refine wpAnyIn_ready (rs := [0, 3]) (by kernel_rfl) (by simp) ?_
        refine AllReadyIn.cons rfl (fun Kc hKc => ?_) ?_
        · refine si_load_row rfl 24 _ rfl (w.heap.size + 1 + 1) rfl 24 _ _ (by first | exact s1 | exact s2) Tryd.underlying24 rfl (sizeV _) ?_
          refine hKc _ _ ?_
          clear hKc Kc
          refine wpAnyIn_ready (rs := [3]) (by kernel_rfl) (by simp) ?_
          refine AllReadyIn.cons rfl (fun Kc hKc => ?_) ?_
          · go_simp
            refine ⟨trivial, ((callsIn_wide.2 (htimes _)).inRound l').mono ?_⟩
            rintro e w5 ⟨rfl, hb5'⟩
            have s2 := s1.later hb5'
            refine hKc _ _ ?_
            clear hKc Kc
            refine wpAnyIn_ready (rs := [4]) (by kernel_rfl) (by simp) ?_
            refine AllReadyIn.cons rfl (fun Kc hKc => ?_) ?_
            · go_simp
              refine ⟨trivial, ((callsIn_wide.2 (hplus _)).inRound l').mono ?_⟩
              rintro e w6 ⟨rfl, hb6⟩
              refine hKc _ _ ?_
              clear hKc Kc
              refine wpAnyIn_ready (rs := [5]) (by kernel_rfl) (by simp) ?_
              refine AllReadyIn.cons rfl (fun Kc hKc => ?_) ?_
              · refine si_store_row rfl 24 _ _ rfl (w.heap.size + 1 + 1) (gv (plusG (valJ l j) (timesG (q - 48, 0) pp))) rfl rfl 24 _ (s2.later hb6) (sizeV _) rfl (oneV _) ?_
                refine hKc _ _ ?_
                clear hKc Kc
                refine wpAnyIn_done (by kernel_rfl) ?_ _
                gi_wp2_with fail
                exact fin _ _ hb5' hb6 _
              exact AllReadyIn.nil
            exact AllReadyIn.nil
          exact AllReadyIn.nil
        refine AllReadyIn.cons rfl (fun Kc hKc => ?_) ?_
        · go_simp
          refine ⟨trivial, ((callsIn_wide.2 (htimes _)).inRound l').mono ?_⟩
          rintro e w5 ⟨rfl, hb5'⟩
          have s2 := s1.later hb5'
          refine hKc _ _ ?_
          clear hKc Kc
          refine wpAnyIn_ready (rs := [0]) (by kernel_rfl) (by simp) ?_
          refine AllReadyIn.cons rfl (fun Kc hKc => ?_) ?_
          · refine si_load_row rfl 24 _ rfl (w.heap.size + 1 + 1) rfl 24 _ _ (by first | exact s1 | exact s2) Tryd.underlying24 rfl (sizeV _) ?_
            refine hKc _ _ ?_
            clear hKc Kc
            refine wpAnyIn_ready (rs := [4]) (by kernel_rfl) (by simp) ?_
            refine AllReadyIn.cons rfl (fun Kc hKc => ?_) ?_
            · go_simp
              refine ⟨trivial, ((callsIn_wide.2 (hplus _)).inRound l').mono ?_⟩
              rintro e w6 ⟨rfl, hb6⟩
              refine hKc _ _ ?_
              clear hKc Kc
              refine wpAnyIn_ready (rs := [5]) (by kernel_rfl) (by simp) ?_
              refine AllReadyIn.cons rfl (fun Kc hKc => ?_) ?_
              · refine si_store_row rfl 24 _ _ rfl (w.heap.size + 1 + 1) (gv (plusG (valJ l j) (timesG (q - 48, 0) pp))) rfl rfl 24 _ (s2.later hb6) (sizeV _) rfl (oneV _) ?_
                refine hKc _ _ ?_
                clear hKc Kc
                refine wpAnyIn_done (by kernel_rfl) ?_ _
                gi_wp2_with fail
                exact fin _ _ hb5' hb6 _
              exact AllReadyIn.nil
            exact AllReadyIn.nil
          exact AllReadyIn.nil
        exact AllReadyIn.nil
      exact AllReadyIn.nil
    refine AllReadyIn.cons rfl (fun Kc hKc => ?_) ?_
    · refine si_load_row rfl 24 _ rfl b5 rfl 24 _ _ p1 Tryd.underlying24 rfl (sizeV _) ?_
      refine hKc _ _ ?_
      clear hKc Kc
      refine wpAnyIn_ready (rs := [0, 1]) (by kernel_rfl) (by simp) ?_
      refine AllReadyIn.cons rfl (fun Kc hKc => ?_) ?_
      · refine si_load_row rfl 24 _ rfl (w.heap.size + 1 + 1) rfl 24 _ _ (by first | exact s1 | exact s2) Tryd.underlying24 rfl (sizeV _) ?_
        refine hKc _ _ ?_
        clear hKc Kc
        refine wpAnyIn_ready (rs := [1]) (by kernel_rfl) (by simp) ?_
        refine AllReadyIn.cons rfl (fun Kc hKc => ?_) ?_
        · refine si_load_row rfl 24 _ rfl t6 rfl 24 _ _ g1 Tryd.underlying24 rfl (sizeV _) ?_
          refine hKc _ _ ?_
          clear hKc Kc
          refine wpAnyIn_ready (rs := [3]) (by kernel_rfl) (by simp) ?_
          refine AllReadyIn.cons rfl (fun Kc hKc => ?_) ?_
          · go_simp
            refine ⟨trivial, ((callsIn_wide.2 (htimes _)).inRound l').mono ?_⟩
            rintro e w5 ⟨rfl, hb5'⟩
            have s2 := s1.later hb5'
            refine hKc _ _ ?_
            clear hKc Kc
            refine wpAnyIn_ready (rs := [4]) (by kernel_rfl) (by simp) ?_
            refine AllReadyIn.cons rfl (fun Kc hKc => ?_) ?_
            · go_simp
              refine ⟨trivial, ((callsIn_wide.2 (hplus _)).inRound l').mono ?_⟩
              rintro e w6 ⟨rfl, hb6⟩
              refine hKc _ _ ?_
              clear hKc Kc
              refine wpAnyIn_ready (rs := [5]) (by kernel_rfl) (by simp) ?_
              refine AllReadyIn.cons rfl (fun Kc hKc => ?_) ?_
              · refine si_store_row rfl 24 _ _ rfl (w.heap.size + 1 + 1) (gv (plusG (valJ l j) (timesG (q - 48, 0) pp))) rfl rfl 24 _ (s2.later hb6) (sizeV _) rfl (oneV _) ?_
                refine hKc _ _ ?_
                clear hKc Kc
                refine wpAnyIn_done (by kernel_rfl) ?_ _
                gi_wp2_with fail
                exact fin _ _ hb5' hb6 _
              exact AllReadyIn.nil
            exact AllReadyIn.nil
          exact AllReadyIn.nil
        exact AllReadyIn.nil
      refine AllReadyIn.cons rfl (fun Kc hKc => ?_) ?_
      · refine si_load_row rfl 24 _ rfl t6 rfl 24 _ _ g1 Tryd.underlying24 rfl (sizeV _) ?_
        refine hKc _ _ ?_
        clear hKc Kc
        refine wpAnyIn_ready (rs := [0, 3]) (by kernel_rfl) (by simp) ?_
        refine AllReadyIn.cons rfl (fun Kc hKc => ?_) ?_
        · refine si_load_row rfl 24 _ rfl (w.heap.size + 1 + 1) rfl 24 _ _ (by first | exact s1 | exact s2) Tryd.underlying24 rfl (sizeV _) ?_
          refine hKc _ _ ?_
          clear hKc Kc
          refine wpAnyIn_ready (rs := [3]) (by kernel_rfl) (by simp) ?_
          refine AllReadyIn.cons rfl (fun Kc hKc => ?_) ?_
          · go_simp
            refine ⟨trivial, ((callsIn_wide.2 (htimes _)).inRound l').mono ?_⟩
            rintro e w5 ⟨rfl, hb5'⟩
            have s2 := s1.later hb5'
            refine hKc _ _ ?_
            clear hKc Kc
            refine wpAnyIn_ready (rs := [4]) (by kernel_rfl) (by simp) ?_
            refine AllReadyIn.cons rfl (fun Kc hKc => ?_) ?_
            · go_simp
              refine ⟨trivial, ((callsIn_wide.2 (hplus _)).inRound l').mono ?_⟩
              rintro e w6 ⟨rfl, hb6⟩
              refine hKc _ _ ?_
              clear hKc Kc
              refine wpAnyIn_ready (rs := [5]) (by kernel_rfl) (by simp) ?_
              refine AllReadyIn.cons rfl (fun Kc hKc => ?_) ?_
              · refine si_store_row rfl 24 _ _ rfl (w.heap.size + 1 + 1) (gv (plusG (valJ l j) (timesG (q - 48, 0) pp))) rfl rfl 24 _ (s2.later hb6) (sizeV _) rfl (oneV _) ?_
                refine hKc _ _ ?_
                clear hKc Kc
                refine wpAnyIn_done (by kernel_rfl) ?_ _
                gi_wp2_with fail
                exact fin _ _ hb5' hb6 _
              exact AllReadyIn.nil
            exact AllReadyIn.nil
          exact AllReadyIn.nil
        refine AllReadyIn.cons rfl (fun Kc hKc => ?_) ?_
        · go_simp
          refine ⟨trivial, ((callsIn_wide.2 (htimes _)).inRound l').mono ?_⟩
          rintro e w5 ⟨rfl, hb5'⟩
          have s2 := s1.later hb5'
          refine hKc _ _ ?_
          clear hKc Kc
          refine wpAnyIn_ready (rs := [0]) (by kernel_rfl) (by simp) ?_
          refine AllReadyIn.cons rfl (fun Kc hKc => ?_) ?_
          · refine si_load_row rfl 24 _ rfl (w.heap.size + 1 + 1) rfl 24 _ _ (by first | exact s1 | exact s2) Tryd.underlying24 rfl (sizeV _) ?_
            refine hKc _ _ ?_
            clear hKc Kc
            refine wpAnyIn_ready (rs := [4]) (by kernel_rfl) (by simp) ?_
            refine AllReadyIn.cons rfl (fun Kc hKc => ?_) ?_
            · go_simp
              refine ⟨trivial, ((callsIn_wide.2 (hplus _)).inRound l').mono ?_⟩
              rintro e w6 ⟨rfl, hb6⟩
              refine hKc _ _ ?_
              clear hKc Kc
              refine wpAnyIn_ready (rs := [5]) (by kernel_rfl) (by simp) ?_
              refine AllReadyIn.cons rfl (fun Kc hKc => ?_) ?_
              · refine si_store_row rfl 24 _ _ rfl (w.heap.size + 1 + 1) (gv (plusG (valJ l j) (timesG (q - 48, 0) pp))) rfl rfl 24 _ (s2.later hb6) (sizeV _) rfl (oneV _) ?_
                refine hKc _ _ ?_
                clear hKc Kc
                refine wpAnyIn_done (by kernel_rfl) ?_ _
                gi_wp2_with fail
                exact fin _ _ hb5' hb6 _
              exact AllReadyIn.nil
            exact AllReadyIn.nil
          exact AllReadyIn.nil
        exact AllReadyIn.nil
      exact AllReadyIn.nil
    exact AllReadyIn.nil
  case done =>
    rintro M1 Z ⟨hd, hv, hr, hbel⟩ hK hM1
    rw [show (pdn 39 80).length = 80 from rfl] at hv
    have HYs := Lib.hid hYs
    have HK := Lib.hid hK
    clear hYs hK hd
    gi_wp2_with (first
      | refine in_load_row rfl 24 _ rfl (w.heap.size + 1 + 1) rfl 24 _ _ hv Tryd.underlying24 rfl (sizeV _) ?_
      | refine in_store_row rfl 24 _ _ rfl (w.heap.size + 1) (gv (valJ l 80)) rfl rfl 24 _ hr (sizeV _) rfl (oneV _) ?_)
    have hYs := HYs.out
    have hr2 := hr.row (gv (valJ l 80))
    have hK2 := (setRow_other Z (w.heap.size + 1) Y.heap.size (gv (valJ l 80)) (by omega)).trans HK.out
    refine leaves_marks [Y.heap.size] _ (by simp) (fun D h => ?_) (fun W' hh => ⟨.agg (gv (valG l)), ?_, rfl, ?_⟩)
    · obtain rfl : D = Y.heap.size := by simpa using h
      exact hK2
    · have := hr2.holds hh (by simp; omega)
      exact results_cell_row Tryd.results23 _ _ (w.heap.size + 1) _ _ _ _ rfl this Tryd.underlying24 rfl (sizeV _)
    · exact ((Holds.of_below (below_row hbel (by omega) _)).trans2 hh (fun r _ h hr => by
        have : r = Y.heap.size := by simpa using hr
        omega)).below (Nat.le_refl _)
  case stop =>
    rintro j M1 Z h _ _
    exact h.elim
end Go.Proofs.YtfekggmdhmkemaaDoor
