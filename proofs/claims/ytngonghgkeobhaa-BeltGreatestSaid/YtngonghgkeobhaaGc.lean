/- The program's Values. -/
import Derived.Test.YtngonghgkeobhaaGb
namespace Go.Proofs.Ytngonghgkeobhaa
open Go.RowKit Go.Shelf
set_option linter.unusedVariables false
set_option linter.unusedSimpArgs false
attribute [local go_sem] Oper.semAt_some

set_option maxHeartbeats 1000000 in
theorem Values_no (n : Int) (V : Value) (l : List Ed) (hg : graphB n l = false) (w : World) (hv : RdE w V l) :
    Calls Try.prog 23 #[.int .i64 n, V] w fun e w' => e = .returned (.tuple #[.slice none 0 0, .int .i64 2]) ∧ Keeps w w' := by
  have c1 := newGraph_no n V l hg w hv
  clear hv hg
  refine (callsIn_wide (n := 6)).1 ?_
  refine callsIn_of_wp_marks Try.func23 rfl trivial ?_ rfl
  simp only [Try.ntmps23, List.size_toArray, List.length_cons, List.length_nil, Nat.reduceAdd, Nat.reduceSub, Array.replicate_succ, Array.replicate_zero, List.push_toArray, List.append_toArray, List.nil_append, List.cons_append]
  gi_wp2_with fail
  refine ⟨trivial, (callsIn_wide.2 c1).mono ?_⟩
  rintro e w1 ⟨rfl, b1⟩
  gi_wp2_with fail
  exact ⟨_, results_tmp2 Try.results23 _ _ _, rfl, Keeps.alloc b1 _⟩
set_option maxHeartbeats 4000000 in
set_option maxRecDepth 100000 in
/-- Values: the different values, sorted. -/
theorem Values_yes (v : Nat) (V : Value) (l : List Ed) (hg : graphB ((v : Int) + 1) l = true) (w : World) (hv : RdE w V l) :
    Calls Try.prog 23 #[.int .i64 ((v : Int) + 1), V] w fun e w' => ∃ u : Value, e = .returned (.tuple #[u, .int .i64 0]) ∧ (∀ R : List Int, R.Pairwise (· < ·) → (∀ x, x ∈ R ↔ x ∈ (prp v).map fun s => valL s l) → w'.ownsRow w.heap.size 3 1 u R.length (R.map (Value.int .i64))) ∧ Keeps w w' := by
  have hv12 : v < 12 := by have := (graphB_n hg).2; omega
  have c1 := newGraph_yes _ V l hg w hv
  have c2 := fun z => properSides_c v z
  have hp := pow_bt v hv12
  have hvc := fun g s z q1 q2 q3 => value_c g s V l (graphB_edges hg) q1 z q2 q3
  have HV := Lib.hid hv
  have Hvi := Lib.hid (fun x => val_in x l (graphB_edges hg))
  clear hg hv
  obtain ⟨xs, hxs⟩ : ∃ xs, prp v = xs := ⟨_, rfl⟩
  obtain ⟨f, hf⟩ : ∃ f : Nat → Int, (fun s => valL s l) = f := ⟨_, rfl⟩
  have hfx : ∀ x, valL x l = f x := fun x => by rw [← hf]
  simp only [hfx] at hvc Hvi
  rw [hxs, hf]
  clear hf hfx
  have HXS := Lib.hid hxs
  clear hxs
  refine (callsIn_wide (n := 6)).1 ?_
  refine callsIn_of_wp_marks Try.func23 rfl trivial ?_ rfl
  simp only [Try.ntmps23, List.size_toArray, List.length_cons, List.length_nil, Nat.reduceAdd, Nat.reduceSub, Array.replicate_succ, Array.replicate_zero, List.push_toArray, List.append_toArray, List.nil_append, List.cons_append]
  gi_wp2_with fail
  refine ⟨trivial, (callsIn_wide.2 c1).mono ?_⟩
  rintro e w1 ⟨B, rfl, hB, a1, b1⟩
  have q1 := gc_edges a1
  have q2 := HV.out.below b1
  have hmm := @run_makeMap Try.prog
  clear c1
  gi_wp2_with fail
  have own0 : ((w1.alloc (.cells #[.pointer (some ⟨B, 0, none⟩)] 58)).alloc (.map #[] 0)).ownsMap Try.prog 3 (plainElem (H := Unit) Try.prog 4) (w1.heap.size + 1) 0 (.map []) := by
    have := World.ownsMap_made (w1.alloc (.cells #[.pointer (some ⟨B, 0, none⟩)] 58)) Try.prog 3 (plainElem (H := Unit) Try.prog 4)
    rw [show (w1.alloc (.cells #[.pointer (some ⟨B, 0, none⟩)] 58)).heap.size = w1.heap.size + 1 by simp] at this
    exact this
  obtain ⟨W4, hW4⟩ : ∃ W4, ((w1.alloc (.cells #[.pointer (some ⟨B, 0, none⟩)] 58)).alloc (.map #[] 0)).alloc (.cells #[.map (some (w1.heap.size + 1))] 80) = W4 := ⟨_, rfl⟩
  have aG : At W4 w1.heap.size 58 #[.pointer (some ⟨B, 0, none⟩)] := by rw [← hW4]; exact ((At.new _ _ _).alloc _).alloc _
  have aK : At W4 (w1.heap.size + 1 + 1) 80 #[.map (some (w1.heap.size + 1))] := by rw [← hW4]; exact At.new' _ _ (by simp) _ _
  have own4 : W4.ownsMap Try.prog 3 (plainElem (H := Unit) Try.prog 4) (w1.heap.size + 1) 0 (.map []) := by rw [← hW4]; exact own0.alloc _
  have k4 : Keeps w1 W4 := by rw [← hW4]; exact Keeps.alloc (Keeps.alloc (Keeps.alloc (Below.refl _ _) _) _) _
  have hs4 : W4.heap.size = w1.heap.size + 3 := by rw [← hW4]; simp
  have kw4 := Keeps.next b1 k4
  have aB4 := a1.later k4
  have lB := a1.lt
  have lw := b1.size
  rw [hW4]
  clear hW4 own0 q1 q2 a1 k4 hmm
  generalize w1.heap.size = bg at *
  refine ⟨trivial, (callsIn_wide.2 (c2 _)).mono ?_⟩
  rintro e Y ⟨rfl, hY⟩
  have hYs : Y.heap.size = W4.heap.size + 2 := by rw [← hY]; simp
  have aGY : At Y bg 58 #[.pointer (some ⟨B, 0, none⟩)] := by rw [← hY]; exact (aG.alloc _).alloc _
  have aKY : At Y (bg + 1 + 1) 80 #[.map (some (bg + 1))] := by rw [← hY]; exact (aK.alloc _).alloc _
  have ownY : Y.ownsMap Try.prog 3 (plainElem (H := Unit) Try.prog 4) (bg + 1) 0 (.map []) := by rw [← hY]; exact (own4.alloc _).alloc _
  have e1Y : At Y W4.heap.size 3 #[.int .i64 ((v : Int) + 1)] := by rw [← hY]; exact (At.new _ _ _).alloc _
  have e2Y : At Y (W4.heap.size + 1) 60 #[.int .u16 ((2048 : Nat) : Int)] := by rw [← hY]; exact At.new' _ _ (by simp) _ _
  have kY : Keeps W4 Y := by rw [← hY]; exact Keeps.alloc (Keeps.alloc (Below.refl _ _) _) _
  have hkY := Keeps.next kw4 kY
  have aBY := aB4.later kY
  clear hY c2 aG aK own4 kY aB4
  gi_wp2_with fail
  have hit := sides_iter v (2 ^ v) hv12 (by rw [hp]; decide) (W4.heap.size + 1) W4.heap.size (fun r => r = W4.heap.size + 1 ∨ r = W4.heap.size) (.inl rfl) (.inr rfl) Y (fun r h => by omega) (by rw [hp]; exact e2Y) e1Y
  have hsx := sds_lt (bt v) (2 ^ v) (by rw [hp]; decide)
  have hsz : (sds (bt v) (2 ^ v)).length ≤ 2048 := by
    rw [sds_length]
    exact Nat.le_trans (Nat.pow_le_pow_right (by decide) (show v ≤ 11 by omega)) (by decide)
  rw [show sds (bt v) (2 ^ v) = xs from HXS.out] at hit hsx hsz
  have hwb := kw4.size
  have hs4' := hs4
  rw [hs4] at hYs
  rw [hs4] at hit
  have hcs : W4.heap.size = bg + 3 := hs4
  clear e1Y e2Y HXS hp kw4 b1 hB
  refine range_mine xs (gf := 68) (lb := #[.pointer (some ⟨bg + 3 + 1, 0, none⟩), .pointer (some ⟨bg + 3, 0, none⟩)]) rfl (enters_of Try.func68 (by kernel_rfl) rfl)
    hit (fun _ _ => rfl) (fun r h => by omega) (fun _ _ _ _ _ _ => trivial)
    (fun j M Z => At Z B 103 (gc ((v : Int) + 1) V (jK l l.length)) ∧ At Z bg 58 #[.pointer (some ⟨B, 0, none⟩)] ∧ At Z (bg + 1 + 1) 80 #[.map (some (bg + 1))] ∧ (∃ D, Z.ownsMap Try.prog 3 (plainElem (H := Unit) Try.prog 4) (bg + 1) j D ∧ HasL D ((xs.take j).map f)) ∧ Below w.heap.size w Z) (fun _ _ _ => False)
    (fun j M Z Z' ⟨h0, h1, h2, ⟨D, h3, h4⟩, h5⟩ hh => ⟨h0.holds hh (.inl (by omega)), h1.holds hh (.inl (by omega)), h2.holds hh (.inl (by omega)), ⟨D, map_holds h3 hh (.inl (by omega)), h4⟩, ((Holds.of_below h5).trans2 hh (fun r _ h => .inl (by omega))).below (Nat.le_refl _)⟩) (fun _ _ _ _ h _ => h)
    ⟨aBY, aGY, aKY, ⟨_, ownY, Go.Maps.isMap_empty, fun x => by simp; rfl⟩, hkY⟩
    (fun x a' _ => a' = { tmps := #[.int .i64 ((v : Int) + 1), V, undef, undef, .slice none 0 0, .int .i64 0, .pointer (some ⟨bg, 0, none⟩), .bool true, .pointer (some ⟨bg + 1 + 1, 0, none⟩), .int .u16 x,
      .tuple #[.pointer (some ⟨B, 0, none⟩), .bool true], .int .i64 ((v : Int) + 1), V, .tuple #[.pointer (some ⟨B, 0, none⟩), .bool true], .pointer (some ⟨B, 0, none⟩), .bool true, .bool true, .bool false, .map (some (bg + 1)), .int .i64 ((v : Int) + 1),
      .func (.func 68) #[] #[.pointer (some ⟨bg + 3 + 1, 0, none⟩), .pointer (some ⟨bg + 3, 0, none⟩)], .int .u16 x, undef, undef, undef, undef, undef, undef, undef], defers := [] })
    (fun _ _ _ _ _ h => h) ?assign ?body ?done ?stop
  case assign =>
    intro l' j x M1 Z h1 h2 h3 hsz
    clear h1 h2 h3 hYs hs4 hs4' hcs hit hsx ownY
    simp only [encB]
    gi_wp2
    exact ⟨Holds.refl _ _, trivial⟩
  case body =>
    rintro l' j x M1 a' Z hx ⟨hg0, hp2, hk2, ⟨D, hown, hD⟩, hbel⟩ hM1 hKin _ rfl hsZ
    have hxl := hsx x (List.mem_of_getElem? hx)
    have hj := (List.getElem?_eq_some_iff.1 hx).1
    have Hbt := Lib.hid (show (xs.take (j + 1)).map f = (xs.take j).map f ++ [f x] by rw [take_at xs j x hx, List.map_append]; rfl)
    have HYs := Lib.hid hYs
    have hqz := gc_edges hg0
    have hvz := HV.out.below hbel
    have hv1 := fun z (kz : Keeps Z z) => hvc B x z hxl (cell_keep hqz kz) (hvz.below kz)
    have hfx := Hvi.out x
    have hwf : (Lit.int .i64 (f x)).wf = true := WalkArith.wf_i64 (by omega)
    have hkey := Go.Maps.keyOf_int_mk (P := Try.prog) (a := f x) Try.underlying3 hwf
    have hval := plainElem_bool (H := Unit) Try.underlying4 true
    have hDp := hD.put (f x) (.lit (.bool true))
    have hj2 : j < maxLen := by unfold maxLen; omega
    clear hYs hx hvc hsx hit hqz hvz hs4 hs4' hcs
    gi_wp2_with fail
    refine region_earlyIn [] (G := Unit) (f := ?f2) (fun _ => [.map (some (bg + 1)), .pointer (some ⟨B, 0, none⟩), .int .u16 x, .int .i64 (f x), undef])
      (fun _ L w' => (L 4 = false → Keeps Z w') ∧ (L 4 = true → ∃ w0, Keeps Z w0 ∧ w0.grownBy w' (some (bg + 1)) ∧ w'.ownsMap Try.prog 3 (plainElem (H := Unit) Try.prog 4) (bg + 1) (j + 1) (D.put (.int .i64 (f x)) (.lit (.bool true))))) () (fun _ => ?hf2) (by kernel_rfl) (by kernel_rfl) (by kernel_rfl) (fun _ h => by cases h) ⟨fun _ => keeps_dr (Below.refl _ _), fun h => (by cases h)⟩ ?steps2 ?fin2
    case hf2 =>
      simp only [fill, List.toList_toArray, List.zip_cons_cons, List.zip_nil_left, List.zip_nil_right, List.foldl_cons, List.foldl_nil, Act.put, List.setIfInBounds_toArray, List.set_cons_succ, List.set_cons_zero]
      exact rfl
    case steps2 =>
      refine StepsIn.cons rfl (fun g L w' hL hr hc hF => ?_) ?_
      · have e4 := hc.not 4 0 rfl rfl hL
        have k3 : Keeps Z w' := hF.1 e4
        have cw := (hk2.later k3).cell 0
        simp only [List.getElem?_toArray, List.getElem?_cons_zero] at cw
        refine StepIn.go rfl (fun K hK => ?_)
        clear hv1
        go_simp
        exact hK () _ ⟨fun _ => k3, fun h => (by have h' : L 4 = true := h; rw [e4] at h'; cases h')⟩
      refine StepsIn.cons rfl (fun g L w' hL hr hc hF => ?_) ?_
      · have e4 := hc.not 4 1 rfl rfl hL
        have k3 : Keeps Z w' := hF.1 e4
        have cw := (hp2.later k3).cell 0
        simp only [List.getElem?_toArray, List.getElem?_cons_zero] at cw
        refine StepIn.go rfl (fun K hK => ?_)
        clear hv1
        go_simp
        exact hK () _ ⟨fun _ => k3, fun h => (by have h' : L 4 = true := h; rw [e4] at h'; cases h')⟩
      refine StepsIn.cons rfl (fun g L w' hL hr hc hF => ?_) ?_
      · have e4 := hc.not 4 2 rfl rfl hL
        have k3 : Keeps Z w' := hF.1 e4
        refine StepIn.go rfl (fun K hK => ?_)
        clear hv1
        go_simp
        exact hK () _ ⟨fun _ => k3, fun h => (by have h' : L 4 = true := h; rw [e4] at h'; cases h')⟩
      refine StepsIn.cons rfl (fun g L w' hL hr hc hF => ?_) ?_
      · have e4 := hc.not 4 3 rfl rfl hL
        have k3 : Keeps Z w' := hF.1 e4
        refine StepIn.go rfl (fun K hK => ?_)
        go_simp
        refine ⟨trivial, ((callsIn_wide.2 (hv1 w' k3)).inRound l').mono ?_⟩
        rintro e w2 ⟨rfl, b3⟩
        exact hK () _ ⟨fun _ => Keeps.next k3 b3, fun h => (by have h' : L 4 = true := h; rw [e4] at h'; cases h')⟩
      refine StepsIn.cons rfl (fun g L w' hL hr hc hF => ?_) ?_
      · have k3 : Keeps Z w' := hF.1 hL
        obtain ⟨w4, hrun, hown4, hgr4⟩ := (map_keeps hown k3).update kInt Try.underlying80 hj2 hkey hval
        refine StepIn.go rfl (fun K hK => ?_)
        clear hv1
        go_simp
        exact hK () _ ⟨fun h => (by rw [add_same] at h; cases h), fun _ => ⟨w', k3, hgr4, hown4⟩⟩
      exact StepsIn.nil (by simp)
    case fin2 =>
    intro g L w2 hall hF
    obtain ⟨w0, k0, hgr, hown2⟩ := hF.2 (hall 4 (by simp))
    clear hall hv1
    have hz2 := Nat.le_trans k0.size hgr.size
    have hgl := (map_keeps hown k0).lt
    have hYs := HYs.out
    have hHm : Holds (fun r => r ≠ bg + 1) Z w2 := (Holds.of_keeps k0 _).grown hgr (fun r hr hk => hk (by injection hr with hr; exact hr.symm))
    have hHk : Holds (fun r => (r = bg + 3 + 1 ∨ r = bg + 3) ∨ (Y.heap.size ≤ r ∧ ¬ M1 r)) Z w2 := hHm.mono (fun r _ h => by omega)
    have q0 := hg0.holds hHm (by omega)
    have q1 := hp2.holds hHm (by omega)
    have q2 := hk2.holds hHm (by omega)
    have q3 : Below w.heap.size w w2 := ((Holds.of_below hbel).trans2 hHm (fun r h1 _ => by omega)).below (Nat.le_refl _)
    gi_wp2_with fail
    refine ⟨M1, fun r hr => Nat.lt_of_lt_of_le (hM1 r hr).2 hz2, fun r h => .inl h, hHk, ?_⟩
    dsimp only
    exact ⟨q0, q1, q2, ⟨_, hown2, by rw [Hbt.out]; exact hDp⟩, q3⟩
  case done =>
    rintro M1 Z ⟨hg0, hp2, hk2, ⟨D, hown, hD⟩, hbel⟩ hK hM1
    rw [List.take_length] at hD
    have hsl : xs.length ≤ 2048 := hsz
    have hsize : Go.Maps.size D ≤ 4096 := Nat.le_trans hown.size_le (by omega)
    have cw := hk2.cell 0
    simp only [List.getElem?_toArray, List.getElem?_cons_zero] at cw
    have hkz := fun X => keysZ (some (bg + 1)) X
    have hso := sortedKeys (bg + 1) xs.length Z.heap.size D (Z.alloc (.cells #[.map (some (bg + 1))] 80)) (by simp) ((At.new Z _ _).cell 0) (hown.alloc _) hsize
    have HK := Lib.hid hK
    have HD := Lib.hid hD
    have HO := Lib.hid hown
    have Hb := Lib.hid hbel
    have hsZ0 := hbel.size
    clear hK hD hown hbel hg0 hp2 hk2 hvc hsx hit hM1 ownY hs4 hs4' hcs
    gi_wp2_with fail
    refine ⟨trivial, (hkz _).mono ?_⟩
    rintro e w5 ⟨rfl, rfl⟩
    gi_wp2_with fail
    refine ⟨trivial, hso.mono ?_⟩
    rintro e w6 ⟨u, ss, rfl, hperm, hrow, hb6⟩
    have hsz6 : (Z.alloc (.cells #[.map (some (bg + 1))] 80)).heap.size = Z.heap.size + 1 := by simp
    gi_wp2_with fail
    have hlt := (Array.getElem?_eq_some_iff.1 HK.out).1
    have hK2 : Z.heap[bg + 3 + 2]? = some (.deferred (some [])) := by rw [← hYs]; exact HK.out
    rw [hYs] at hlt
    refine ⟨by simp, .inl ⟨_, _, rfl, run_takeDeferred (w := w6) ((hb6.block _ (by omega)).trans ((Below.heap_alloc _ _ _ hlt).trans hK2)), ?_⟩⟩
    have hkz := Hb.out
    have hb7 : Keeps Z w6 := Keeps.next (Keeps.alloc (Below.refl _ _) _) hb6
    refine ⟨_, results_tmp2 Try.results23 _ _ _, u, rfl, fun R hR hm => ?_, ((Holds.of_below (Keeps.next hkz hb7)).put _ (by omega) _).below (Nat.le_refl _)⟩
    obtain ⟨e1, e2⟩ := keys_sorted HO.out kInt Try.underlying3 HD.out hperm hR hm
    rw [e1, e2] at hrow
    refine own_low (own_holds (K := fun r => r ≠ bg + 3 + 2) hrow ((Holds.refl _ _).put _ (by simp) _) (fun b hb => ?_)) (by omega)
    have := own_base hrow b hb
    omega
  case stop =>
    rintro j M1 Z h _ _
    exact h.elim
end Go.Proofs.Ytngonghgkeobhaa
