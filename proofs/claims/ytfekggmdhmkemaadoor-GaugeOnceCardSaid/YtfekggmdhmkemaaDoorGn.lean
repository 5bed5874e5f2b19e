/- The walk of parts: an iterator that hands over the exponents of a plain text. -/
import Derived.Test.YtfekggmdhmkemaaDoorGd
import Derived.Test.YtfekggmdhmkemaaDoorGh
namespace Go.Proofs.YtfekggmdhmkemaaDoor
open Go.RowKit Go.Shelf
set_option linter.unusedVariables false
set_option linter.unusedSimpArgs false
attribute [local go_sem] Oper.semAt_some

theorem roundIn_any {n m : Nat} {P : Program} {l l' : Nat} {f : FuncId} {tmps : Array Value} {assign body : Code} {w : World} {R : Ending → World → Prop} (h : RoundIn Fence.wide n P l f tmps assign body w R) : RoundIn (Fence.wide.inRound l') m P l f tmps assign body w R :=
  ⟨h.1, fun c cs _ => h.2 c cs (room_wide _)⟩
/-- A step of the search for a plain text. -/
def prS (s : (Int × Int) × List Int) (e : Int) : (Int × Int) × List Int := if sgn (s.1.1 - (pw e).1) (s.1.2 - (pw e).2) < 0 then s else ((s.1.1 - (pw e).1, s.1.2 - (pw e).2), s.2 ++ [e])
def prJ (x : Int × Int) (j : Nat) : (Int × Int) × List Int := ((pdn 39 80).take j).foldl prS (x, [])
def partsL (x : Int × Int) : List Int := (prJ x 80).2
theorem prJ_succ (x : Int × Int) (j : Nat) (h : j < 80) : prJ x (j + 1) = prS (prJ x j) (39 - j) := by
  rw [prJ, pdn_take _ _ _ h, List.foldl_append]; rfl
def capA (j : Nat) : Nat := ((List.range j).map fun i : Nat => (pw (39 - (i : Int))).1.natAbs).sum
def capB (j : Nat) : Nat := ((List.range j).map fun i : Nat => (pw (39 - (i : Int))).2.natAbs).sum
theorem cap_all : ((List.range 81).all fun j => decide (capA j ≤ 600000000) && decide (capB j ≤ 600000000)) = true := by decide +kernel
theorem cap_le (j : Nat) (h : j ≤ 80) : capA j ≤ 600000000 ∧ capB j ≤ 600000000 := by
  have := List.all_eq_true.1 cap_all j (by simp; omega)
  simpa using this
theorem capA_succ (j : Nat) : capA (j + 1) = capA j + (pw (39 - (j : Int))).1.natAbs := by simp [capA, List.range_succ]
theorem capB_succ (j : Nat) : capB (j + 1) = capB j + (pw (39 - (j : Int))).2.natAbs := by simp [capB, List.range_succ]
theorem prJ_in (x : Int × Int) (hx : sm2 1000000 x) (j : Nat) (hj : j ≤ 80) : sm (1000000 + capA j) (prJ x j).1.1 ∧ sm (1000000 + capB j) (prJ x j).1.2 := by
  induction j with
  | zero => exact ⟨sm_mono hx.1 (by omega), sm_mono hx.2 (by omega)⟩
  | succ j ih =>
    obtain ⟨h1, h2⟩ := ih (by omega)
    rw [prJ_succ x j (by omega), capA_succ, capB_succ]
    unfold prS sm at *
    split
    · omega
    · simp only; omega
theorem partsL_len (x : Int × Int) (j : Nat) (hj : j ≤ 80) : ∃ t, partsL x = (prJ x j).2 ++ t := by
  obtain ⟨d, hd⟩ : ∃ d, d = 80 - j := ⟨_, rfl⟩
  induction d generalizing j with
  | zero => obtain rfl : j = 80 := by omega
            exact ⟨[], by simp [partsL]⟩
  | succ d ih =>
    obtain ⟨t, ht⟩ := ih (j + 1) (by omega) (by omega)
    rw [ht, prJ_succ x j (by omega)]
    unfold prS
    split
    · exact ⟨t, rfl⟩
    · exact ⟨(39 - (j : Int)) :: t, by simp⟩
theorem partsL_at (x : Int × Int) (j : Nat) (hj : j < 80) (h : ¬ sgn ((prJ x j).1.1 - (pw (39 - j)).1) ((prJ x j).1.2 - (pw (39 - j)).2) < 0) : (partsL x)[(prJ x j).2.length]? = some (39 - (j : Int)) := by
  obtain ⟨t, ht⟩ := partsL_len x (j + 1) (by omega)
  rw [ht, prJ_succ x j hj, prS, if_neg h]
  simp
theorem parts_c (x : Int × Int) (w : World) :
    Calls Tryd.prog 42 #[.agg (gv x)] w fun e w' => e = .returned (.func (.func 57) #[] #[.pointer (some ⟨w.heap.size, 0, none⟩)]) ∧ w.alloc (.cells (gv x) 24) = w' := by
  go_enter Tryd.func42, Tryd.ntmps42
  go_wp2
  go_ret
  exact ⟨rfl, rfl⟩
set_option maxHeartbeats 4000000 in
set_option maxRecDepth 100000 in
theorem parts_iter (x : Int × Int) (hx : sm2 1000000 x) (bx : Nat) (K : Nat → Prop) (hbx : K bx) (w0 : World) (hK : ∀ r, K r → r < w0.heap.size) (hax : At w0 bx 24 (gv x)) :
    Iter Tryd.prog 57 #[.pointer (some ⟨bx, 0, none⟩)] encP (fun _ _ _ => True) K (partsL x) w0 := by
  intro n q J Jx W hW hsz hJ hJx hY h0
  have HJ := Lib.hid hJ
  have HJx := Lib.hid hJx
  have HY := Lib.hid hY
  have aX := hax.holds hW hbx
  have hKW : ∀ r, K r → r < W.heap.size := fun r hr => by have := hK r hr; omega
  have aXl := aX.lt
  clear hJ hJx hY
  rw [show (#[Value.func (.yield q) #[] #[]] ++ #[Value.pointer (some ⟨bx, 0, none⟩)] : Array Value) = #[.func (.yield q) #[] #[], .pointer (some ⟨bx, 0, none⟩)] from rfl]
  refine (callsIn_wide (n := n + 1)).1 ?_
  refine callsIn_of_wp_marks Tryd.func57 rfl trivial ?_ rfl
  simp only [Tryd.ntmps57, List.size_toArray, List.length_cons, List.length_nil, Nat.reduceAdd, Nat.reduceSub, Array.replicate_succ, Array.replicate_zero, List.push_toArray, List.append_toArray, List.nil_append, List.cons_append]
  have aX1 := aX.alloc (.cells #[.func (.yield q) #[] #[]] 77)
  gi_wp2_with (first
    | refine in_load_row rfl 24 _ rfl bx rfl 24 _ _ aX1 Tryd.underlying24 rfl (sizeV _) ?_
    | refine in_store_row rfl 24 _ _ rfl (W.heap.size + 1) (gv x) rfl rfl 24 (gv (0, 0)) (At.new2 W _ _ _) (sizeV _) rfl (oneV _) ?_)
  refine ⟨trivial, (callsIn_wide.2 (powers_c 39 (-40) _)).mono ?_⟩
  rintro e w2 ⟨rfl, rfl⟩
  gi_wp2_with fail
  obtain ⟨Y, hY⟩ : ∃ Y, (((((W.alloc (.cells #[.func (.yield q) #[] #[]] 77)).alloc (.cells #[.int .i64 0, .int .i64 0] 24)).setRow (W.heap.size + 1) (gv x)).alloc (.cells #[.int .i64 39] 3)).alloc (.cells #[.int .i64 (-40)] 3)) = Y := ⟨_, rfl⟩
  have hYs : Y.heap.size = W.heap.size + 4 := by rw [← hY]; simp
  have hfY : At Y W.heap.size 77 #[.func (.yield q) #[] #[]] := by rw [← hY]; exact ((((At.new W _ _).alloc _).rowfar (by omega) _).alloc _).alloc _
  have hlY : At Y (W.heap.size + 1) 24 (gv x) := by rw [← hY]; exact (((At.new2 W _ _ (gv (0, 0))).row (gv x)).alloc _).alloc _
  have h39 : At Y (W.heap.size + 1 + 1) 3 #[.int .i64 39] := by rw [← hY]; exact (At.new' _ _ (by simp) _ _).alloc _
  have h40 : At Y (W.heap.size + 1 + 1 + 1) 3 #[.int .i64 (-40)] := by rw [← hY]; exact At.new' _ _ (by simp) _ _
  have hkY : Keeps W Y := by rw [← hY]; exact Keeps.alloc (Keeps.alloc (below_row (Keeps.alloc (Keeps.alloc (Below.refl _ _) _) _) (by omega) _) _) _
  rw [hY]
  clear hY aX1
  have hJ0 : J (prJ x 0).2.length (fun _ => False) Y := HJ.out 0 _ W Y h0 (Holds.of_keeps hkY _)
  refine range_mine (pdn 39 80) (gf := 54) (lb := #[.pointer (some ⟨W.heap.size + 1 + 1, 0, none⟩), .pointer (some ⟨W.heap.size + 1 + 1 + 1, 0, none⟩)]) rfl (enters_of Tryd.func54 (by kernel_rfl) rfl)
    (powers_iter 39 (-40) (by decide) (by decide) (by decide) (W.heap.size + 1 + 1) (W.heap.size + 1 + 1 + 1) (fun r => r = W.heap.size + 1 + 1 ∨ r = W.heap.size + 1 + 1 + 1) (.inl rfl) (.inr rfl) Y (fun r h => by omega) h39 h40)
    (fun _ _ => rfl) (fun r h => by omega) (fun _ _ _ _ _ _ => trivial)
    (fun j M Z => J (prJ x j).2.length M Z ∧ At Z W.heap.size 77 #[.func (.yield q) #[] #[]] ∧ At Z (W.heap.size + 1) 24 (gv (prJ x j).1) ∧ Holds K W Z)
    (fun _ M Z => ∃ k, Jx k M Z)
    (fun j M Z Z' h hh => ⟨HJ.out _ _ _ _ h.1 (hh.mono (fun r _ h => h.imp (fun h => by omega) id)), h.2.1.holds hh (.inl (by omega)), h.2.2.1.holds hh (.inl (by omega)), h.2.2.2.trans (hh.mono (fun r _ h => .inl (by have := hKW r h; omega)))⟩)
    (fun j M Z Z' ⟨k, h⟩ hh => ⟨k, HJx.out _ _ _ _ h (hh.mono (fun r _ h => h.imp (fun h => by omega) id))⟩)
    ⟨hJ0, hfY, hlY, Holds.of_keeps hkY _⟩
    (fun e a' Z => ∃ b5, Y.heap.size + 2 ≤ b5 ∧ At Z b5 24 (gv (pw e)) ∧ a' = { tmps := #[.func (.yield q) #[] #[], .pointer (some ⟨bx, 0, none⟩), .pointer (some ⟨W.heap.size, 0, none⟩), .pointer (some ⟨W.heap.size + 1, 0, none⟩), .int .i64 e, .pointer (some ⟨b5, 0, none⟩), undef, .agg (gv x), .func (.func 54) #[] #[.pointer (some ⟨W.heap.size + 1 + 1, 0, none⟩), .pointer (some ⟨W.heap.size + 1 + 1 + 1, 0, none⟩)], .int .i64 e, .agg (gv (pw e)), undef, undef, undef, undef, undef, undef, undef, undef, undef, undef, undef, undef], defers := [] })
    (fun e a Z Z' hh ⟨b5, h1, h2, h3⟩ => ⟨b5, h1, h2.holds hh (by omega), h3⟩) ?assign ?body ?done ?stop
  case assign =>
    intro l' j e M1 Z _ _ _ hsz
    have HYs := Lib.hid hYs
    clear hYs
    simp only [encP]
    gi_wp2_with (refine in_store_row rfl 24 _ _ rfl Z.heap.size (gv (pw e)) rfl rfl 24 (gv (0, 0)) (At.new Z 24 _) (sizeV _) rfl (oneV _) ?_)
    refine ⟨Holds.mono (Holds.row (K := fun r => r ≠ Z.heap.size) ((Holds.refl _ Z).alloc _) _ (by simp) _) (fun r hr _ => by omega), Z.heap.size, hsz, (At.new Z 24 (gv (0, 0))).row _, rfl⟩
  case body =>
    rintro l' j e M1 a' Z hxe ⟨hj, hf, hl, hKZ⟩ hM1 hKin _ ⟨b5, hb5, hp, rfl⟩ hsz
    obtain ⟨hjlt, rfl⟩ := pdn_of _ _ _ _ hxe
    have hin := prJ_in x hx j (by omega)
    have hin2 := prJ_in x hx (j + 1) (by omega)
    have hcap := cap_le (j + 1) (by omega)
    have hcap0 := cap_le j (by omega)
    have hcA := capA_succ j
    have hcB := capB_succ j
    have hps := pw_sm (39 - j) (by omega) (by omega)
    have hat := partsL_at x j hjlt
    have hsc := prJ_succ x j hjlt
    unfold prS at hsc
    have hmi := fun y => minus_v (prJ x j).1 (pw (39 - j)) ⟨sm_mono hin.1 (by omega), sm_mono hin.2 (by omega)⟩ ⟨sm_mono hps.1 (by decide), sm_mono hps.2 (by decide)⟩ y
    have hsg := fun y => sign_c ((prJ x j).1.1 - (pw (39 - j)).1) ((prJ x j).1.2 - (pw (39 - j)).2) (by unfold sm at *; omega) (by unfold sm at *; omega) y
    rw [show minusG (prJ x j).1 (pw (39 - j)) = ((prJ x j).1.1 - (pw (39 - j)).1, (prJ x j).1.2 - (pw (39 - j)).2) from rfl] at hmi
    have Hps := Lib.hid hps
    have Hhy : ∀ M Z3, J (prJ x j).2.length M Z3 → (partsL x)[(prJ x j).2.length]? = some (39 - (j : Int)) → (∀ r, M r → W.heap.size ≤ r ∧ r < Z3.heap.size) → Holds K W Z3 → YieldAt Fence.wide n Tryd.prog q (encP W.heap.size (39 - (j : Int))) Z3 (RoundOk W.heap.size K J Jx (prJ x j).2.length M Z3) :=
      fun M Z3 h1 h2 h3 h4 => HY.out _ _ _ _ h2 h1 h3 h4 trivial
    rw [show encP W.heap.size (39 - (j : Int)) = #[.int .i64 (39 - (j : Int)), .agg (gv (pw (39 - (j : Int))))] from rfl] at Hhy
    have HHY := Lib.hid Hhy
    have cf := hf.cell 0
    simp only [List.getElem?_toArray, List.getElem?_cons_zero] at cf
    have hf0 := hf.lt
    have hl0 := hl.lt
    have hYw : W.heap.size + 4 ≤ Y.heap.size := by omega
    have HYs := Lib.hid hYs
    clear hYs hxe hin hin2 hcap hcap0 hcA hcB hps Hhy
    generalize hk : (prJ x j).2.length = k at *
    have Hk := Lib.hid hk
    clear hk
    generalize hpp : pw (39 - (j : Int)) = pp at *
    clear hpp Hps
    generalize hdd : (((prJ x j).1.1 - pp.1, (prJ x j).1.2 - pp.2) : Int × Int) = d at *
    rw [show (prJ x j).1.1 - pp.1 = d.1 from by rw [← hdd], show (prJ x j).1.2 - pp.2 = d.2 from by rw [← hdd]] at hsc hat hsg
    clear hdd
    gi_wp2_with (first
      | refine in_load_row rfl 24 _ rfl (W.heap.size + 1) rfl 24 _ _ hl Tryd.underlying24 rfl (sizeV _) ?_
      | refine in_load_row rfl 24 _ rfl b5 rfl 24 _ _ hp Tryd.underlying24 rfl (sizeV _) ?_)
    refine ⟨trivial, ((callsIn_wide.2 (hmi _)).inRound l').mono ?_⟩
    rintro e w1 ⟨rfl, hk1⟩
    have t60 := At.new w1 24 (gv (0, 0))
    clear hmi
    have t61 := t60.row (gv d)
    gi_wp2_with (first
      | refine in_store_row rfl 24 _ _ rfl w1.heap.size (gv d) rfl rfl 24 (gv (0, 0)) t60 (sizeV _) rfl (oneV _) ?_
      | refine in_load_row rfl 24 _ rfl w1.heap.size rfl 24 _ _ t61 Tryd.underlying24 rfl (sizeV _) ?_)
    refine ⟨trivial, ((callsIn_wide.2 (hsg _)).inRound l').mono ?_⟩
    rintro e w3 ⟨rfl, hk3⟩
    have hkZ : Keeps Z w3 := Keeps.next (below_row (Keeps.alloc hk1 _) hk1.size _) hk3
    have t63 := t61.later hk3
    have hl3 := hl.later hkZ
    have hf3 := hf.later hkZ
    have hp3 := hp.later hkZ
    have hz1 := hk1.size
    have hz3 := hkZ.size
    have ht6 := t63.lt
    have hJ3 := HJ.out _ _ _ _ hj (Holds.of_keeps hkZ _)
    have hK3 := hKZ.trans (Holds.of_keeps hkZ K)
    have hM3 : ∀ r, M1 r → W.heap.size ≤ r ∧ r < w3.heap.size := fun r hr => ⟨by have := (hM1 r hr).1; omega, Nat.lt_of_lt_of_le (hM1 r hr).2 hkZ.size⟩
    have cf3 := hf3.cell 0
    simp only [List.getElem?_toArray, List.getElem?_cons_zero] at cf3
    generalize hgt : w1.heap.size = t6 at *
    clear hgt hsg t60 t61 hk1 hk3 cf hl hf hp
    by_cases hneg : sgn d.1 d.2 < 0
    · rw [if_pos hneg] at hsc
      have Hsc := Lib.hid hsc
      have hdn : decide (sgn d.1 d.2 < 0) = true := by simpa using hneg
      clear hsc hat hneg
      gi_wp2_with fail
      refine ⟨M1, fun r hr => (hM3 r hr).2, fun r h => .inl h, Holds.of_keeps hkZ _, ?_, hf3, ?_, hK3⟩
      · rw [Hsc.out, Hk.out]; exact hJ3
      · rw [Hsc.out]; exact hl3
    · rw [if_neg hneg] at hsc
      obtain ⟨fn, tmps, assign, body, hy, hR⟩ := HHY.out M1 w3 hJ3 (hat (by omega)) hM3 hK3
      have Hsc := Lib.hid hsc
      have hdn : decide (sgn d.1 d.2 < 0) = false := by simpa using hneg
      clear hsc hat hneg HHY
      gi_wp2_with (first
        | refine in_load_row rfl 24 _ rfl b5 rfl 24 _ _ hp3 Tryd.underlying24 rfl (sizeV _) ?_)
      refine (roundIn_any hR).mono ?_
      rintro e X' ⟨M2, m1, m2, hh2, hend⟩
      clear hy hR
      have hzX := hh2.size
      have hM2t : ¬ M1 t6 := fun h => by have := (hM1 _ h).2; omega
      have hM2l : ¬ M1 (W.heap.size + 1) := fun h => by have := (hM1 _ h).1; omega
      have hM2f : ¬ M1 W.heap.size := fun h => by have := (hM1 _ h).1; omega
      have hl4 : At X' (W.heap.size + 1) 24 (gv (prJ x j).1) := hl3.holds hh2 (.inr ⟨by omega, hM2l⟩)
      have hf4 : At X' W.heap.size 77 #[.func (.yield q) #[] #[]] := hf3.holds hh2 (.inr ⟨by omega, hM2f⟩)
      have ht4 : At X' t6 24 (gv d) := t63.holds hh2 (.inr ⟨by omega, hM2t⟩)
      have hK4 := hK3.trans2 hh2 (fun r _ h => .inl h)
      have hin4 : Holds (fun r => (r = W.heap.size + 1 + 1 ∨ r = W.heap.size + 1 + 1 + 1) ∨ (Y.heap.size ≤ r ∧ ¬ M1 r)) Z X' := (Holds.of_keeps hkZ _).trans2 hh2 (fun r _ h => .inr (h.elim (fun h => ⟨by omega, fun h' => by have := (hM1 r h').1; omega⟩) (fun h => ⟨by omega, h.2⟩)))
      have hM2b : ∀ r, M2 r → Y.heap.size + 2 ≤ r ∧ r < X'.heap.size := fun r hr => ⟨(m2 r hr).elim (fun h => (hM1 r h).1) (fun h => by omega), m1 r hr⟩
      clear hl3 hf3 t63 hp3 hJ3
      rcases hend with ⟨rfl, hj2⟩ | ⟨rfl, hj2⟩
      · gi_wp2_with (first
          | refine in_load_row rfl 24 _ rfl t6 rfl 24 _ _ ht4 Tryd.underlying24 rfl (sizeV _) ?_
          | refine in_store_row rfl 24 _ _ rfl (W.heap.size + 1) (gv d) rfl rfl 24 _ hl4 (sizeV _) rfl (oneV _) ?_)
        have hgM : Holds (fun r => r < W.heap.size ∨ M2 r) X' (X'.setRow (W.heap.size + 1) (gv d)) := (Holds.refl _ _).row _ (fun h => h.elim (fun h => by omega) (fun h => by have := (hM2b _ h).1; omega)) _
        refine ⟨M2, fun r hr => by simpa using (hM2b r hr).2, fun r h => (m2 r h).imp id (fun h => by omega), hin4.row _ (fun h => by
          rcases h with h | h
          · omega
          · omega) _, ?_, hf4.rowfar (by omega) _, ?_, hK4.row _ (fun h => by have := hKW _ h; omega) _⟩
        · rw [Hsc.out]; simp only [List.length_append, List.length_cons, List.length_nil, Hk.out]
          exact HJ.out _ _ _ _ hj2 hgM
        · rw [Hsc.out]; exact hl4.row _
      · gi_wp2_with fail
        exact ⟨M2, fun r hr => (hM2b r hr).2, fun r h => (m2 r h).imp id (fun h => by omega), hin4, _, hj2⟩
  case done =>
    rintro M1 Z ⟨hj, hf, hl, hKZ⟩ hK' hM1
    rw [show (prJ x (pdn 39 80).length).2 = partsL x from rfl] at hj
    have HYs := Lib.hid hYs
    have HK := Lib.hid hK'
    clear hYs hK' hf hl
    gi_wp2_with fail
    have hYs := HYs.out
    refine leaves_marks [Y.heap.size] _ (by simp) (fun D h => ?_) (fun W' hh => ⟨.tuple #[], results_none Tryd.results57 _ _ _, ⟨_, rfl⟩, M1, fun r hr => ⟨by have := (hM1 r hr).1; omega, Nat.lt_of_lt_of_le (hM1 r hr).2 hh.size⟩, .inl ?_⟩)
    · obtain rfl : D = Y.heap.size := by simpa using h
      exact HK.out
    · exact HJ.out _ _ _ _ hj (hh.mono (fun r _ h => by
        have : r ≠ Y.heap.size := h.elim (fun h => by omega) (fun h => by have := (hM1 r h).1; omega)
        simpa using this))
  case stop =>
    rintro j M1 Z ⟨k, hj⟩ hK' hM1
    have HYs := Lib.hid hYs
    have HK := Lib.hid hK'
    clear hYs hK'
    gi_wp2_with fail
    have hYs := HYs.out
    refine leaves_marks [Y.heap.size] _ (by simp) (fun D h => ?_) (fun W' hh => ⟨.tuple #[], results_none Tryd.results57 _ _ _, ⟨_, rfl⟩, M1, fun r hr => ⟨by have := (hM1 r hr).1; omega, Nat.lt_of_lt_of_le (hM1 r hr).2 hh.size⟩, .inr ⟨k, ?_⟩⟩)
    · obtain rfl : D = Y.heap.size := by simpa using h
      exact HK.out
    · exact HJx.out _ _ _ _ hj (hh.mono (fun r _ h => by
        have : r ≠ Y.heap.size := h.elim (fun h => by omega) (fun h => by have := (hM1 r h).1; omega)
        simpa using this))
end Go.Proofs.YtfekggmdhmkemaaDoor
