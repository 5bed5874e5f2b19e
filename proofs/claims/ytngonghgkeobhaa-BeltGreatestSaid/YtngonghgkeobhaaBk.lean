/- Count. -/
import Derived.Test.YtngonghgkeobhaaBj
namespace Go.Proofs.Ytngonghgkeobhaa
open Go.RowKit Go.Shelf
set_option linter.unusedVariables false
set_option linter.unusedSimpArgs false
attribute [local go_sem] Oper.semAt_some

set_option maxHeartbeats 1000000 in
theorem Count_no (n : Int) (V : Value) (l : List Ed) (hg : graphB n l = false) (w : World) (hv : RdE w V l) :
    Calls Try.prog 22 #[.int .i64 n, V] w fun e w' => e = .returned (.tuple #[.int .i64 0, .int .i64 2]) ∧ Keeps w w' := by
  have c1 := newGraph_no n V l hg w hv
  clear hv hg
  refine (callsIn_wide (n := 5)).1 ?_
  refine callsIn_of_wp_marks Try.func22 rfl trivial ?_ rfl
  simp only [Try.ntmps22, List.size_toArray, List.length_cons, List.length_nil, Nat.reduceAdd, Nat.reduceSub, Array.replicate_succ, Array.replicate_zero, List.push_toArray, List.append_toArray, List.nil_append, List.cons_append]
  gi_wp2_with fail
  refine ⟨trivial, (callsIn_wide.2 c1).mono ?_⟩
  rintro e w1 ⟨rfl, b1⟩
  gi_wp2_with fail
  exact ⟨_, results_tmp2 Try.results22 _ _ _, rfl, Keeps.alloc b1 _⟩
/-- How many of some sides have the value z. -/
def cntV (f : Nat → Int) (z : Int) (xs : List Nat) : Nat := (xs.filter fun x => decide (f x = z)).length
theorem cntV_take (f : Nat → Int) (z : Int) (xs : List Nat) (k x : Nat) (h : xs[k]? = some x) : cntV f z (xs.take (k + 1)) = cntV f z (xs.take k) + if f x = z then 1 else 0 := by
  unfold cntV
  rw [take_at xs k x h, List.filter_append, List.length_append]
  by_cases e : f x = z <;> simp [e]
set_option maxHeartbeats 4000000 in
set_option maxRecDepth 100000 in
theorem Count_yes (v : Nat) (V : Value) (l : List Ed) (hg : graphB ((v : Int) + 1) l = true) (w : World) (hv : RdE w V l) :
    Calls Try.prog 22 #[.int .i64 ((v : Int) + 1), V] w fun e w' => e = .returned (.tuple #[.int .i64 (cntV (fun s => valL s l) (bestL v l).2 (prp v)), .int .i64 0]) ∧ Keeps w w' := by
  have hv12 : v < 12 := by have := (graphB_n hg).2; omega
  have c1 := newGraph_yes _ V l hg w hv
  have c2 := fun z => properSides_c v z
  have hp := pow_bt v hv12
  have c3 := fun g b1 b2 z q1 q2 q3 q4 => best_c v (2 ^ v) hv12 (by rw [hp]; decide) g b1 b2 V l (graphB_edges hg) z q1 q2 q3 q4
  rw [show bst (fun s => valL s l) (sds (bt v) (2 ^ v)) = bestL v l from rfl, hp] at c3
  have hvc := fun g s z q1 q2 q3 => value_c g s V l (graphB_edges hg) q1 z q2 q3
  have HV := Lib.hid hv
  clear hg hv
  generalize bestL v l = p at *
  obtain ⟨xs, hxs⟩ : ∃ xs, prp v = xs := ⟨_, rfl⟩
  obtain ⟨f, hf⟩ : ∃ f : Nat → Int, (fun s => valL s l) = f := ⟨_, rfl⟩
  have hfx : ∀ x, valL x l = f x := fun x => by rw [← hf]
  simp only [hfx] at hvc
  simp only [hf, hxs]
  clear hf hfx
  have HXS := Lib.hid hxs
  clear hxs
  refine (callsIn_wide (n := 5)).1 ?_
  refine callsIn_of_wp_marks Try.func22 rfl trivial ?_ rfl
  simp only [Try.ntmps22, List.size_toArray, List.length_cons, List.length_nil, Nat.reduceAdd, Nat.reduceSub, Array.replicate_succ, Array.replicate_zero, List.push_toArray, List.append_toArray, List.nil_append, List.cons_append]
  gi_wp2_with fail
  refine ⟨trivial, (callsIn_wide.2 c1).mono ?_⟩
  rintro e w1 ⟨B, rfl, hB, a1, b1⟩
  have q1 := gc_edges a1
  have q2 := HV.out.below b1
  clear c1
  gi_wp2_with fail
  obtain ⟨W4, hW4⟩ : ∃ W4, w1.alloc (.cells #[.pointer (some ⟨B, 0, none⟩)] 58) = W4 := ⟨_, rfl⟩
  have aG : At W4 w1.heap.size 58 #[.pointer (some ⟨B, 0, none⟩)] := by rw [← hW4]; exact At.new _ _ _
  have k4 : Keeps w1 W4 := by rw [← hW4]; exact Keeps.alloc (Below.refl _ _) _
  have q4 := cell_keep q1 k4
  have q5 := q2.below k4
  have kw4 := Keeps.next b1 k4
  have aB4 := a1.later k4
  clear a1
  rw [hW4]
  clear hW4 q1 q2
  generalize w1.heap.size = bg at *
  refine region_earlyIn [] (G := Nat × Nat) (f := ?f) (fun g => [.pointer (some ⟨B, 0, none⟩), .int .i64 ((v : Int) + 1), .func (.func 68) #[] #[.pointer (some ⟨g.1 + 1, 0, none⟩), .pointer (some ⟨g.1, 0, none⟩)],
      .tuple #[.int .u16 p.1, .int .i64 p.2], .tuple #[.int .u16 p.1, .int .i64 p.2], .int .u16 p.1, .int .i64 p.2, .pointer (some ⟨g.2, 0, none⟩), .int .u16 p.1, undef])
    (fun g L w' => Keeps W4 w' ∧ (L 2 = true → L 3 = false → At w' g.1 3 #[.int .i64 ((v : Int) + 1)] ∧ At w' (g.1 + 1) 60 #[.int .u16 ((2048 : Nat) : Int)]) ∧ (L 7 = true → W4.heap.size ≤ g.2 ∧ At w' g.2 3 #[.int .i64 (if L 9 = true then p.2 else 0)]))
    (0, 0) (fun _ => ?hf) (by kernel_rfl) (by kernel_rfl) (by kernel_rfl) (fun _ h => by cases h) ⟨keeps_dr (Below.refl _ _), fun h => (by cases h), fun h => (by cases h)⟩ ?steps ?fin
  case hf =>
    simp only [fill, List.toList_toArray, List.zip_cons_cons, List.zip_nil_left, List.zip_nil_right, List.foldl_cons, List.foldl_nil, Act.put, List.setIfInBounds_toArray, List.set_cons_succ, List.set_cons_zero]
    exact rfl
  case steps =>
      refine StepsIn.cons rfl (fun g L w' hL hr hc hF => ?_) ?_
      · obtain ⟨k3, h2, h7⟩ := hF
        have cw := (aG.later k3).cell 0
        simp only [List.getElem?_toArray, List.getElem?_cons_zero] at cw
        refine StepIn.go rfl (fun K hK => ?_)
        clear c2 c3
        go_simp
        exact hK g _ ⟨k3, h2, h7⟩
      refine StepsIn.cons rfl (fun g L w' hL hr hc hF => ?_) ?_
      · obtain ⟨k3, h2, h7⟩ := hF
        have cw := (aG.later k3).cell 0
        simp only [List.getElem?_toArray, List.getElem?_cons_zero] at cw
        refine StepIn.go rfl (fun K hK => ?_)
        clear c2 c3
        go_simp
        exact hK g _ ⟨k3, h2, h7⟩
      refine StepsIn.cons rfl (fun g L w' hL hr hc hF => ?_) ?_
      · obtain ⟨k3, h2, h7⟩ := hF
        refine StepIn.go rfl (fun K hK => ?_)
        clear c3
        go_simp
        refine ⟨trivial, (callsIn_wide.2 (c2 _)).mono ?_⟩
        rintro e w2 ⟨rfl, hw⟩
        have k2 : Keeps w' w2 := by rw [← hw]; exact Keeps.alloc (Keeps.alloc (Below.refl _ _) _) _
        have e1 : At w2 w'.heap.size 3 #[.int .i64 ((v : Int) + 1)] := by rw [← hw]; exact (At.new _ _ _).alloc _
        have e2 : At w2 (w'.heap.size + 1) 60 #[.int .u16 ((2048 : Nat) : Int)] := by rw [← hw]; exact At.new2 _ _ _ _
        exact hK (w'.heap.size, g.2) _ ⟨Keeps.next k3 k2, fun _ _ => ⟨e1, e2⟩, fun h => ⟨(h7 h).1, (h7 h).2.later k2⟩⟩
      refine StepsIn.cons rfl (fun g L w' hL hr hc hF => ?_) ?_
      · obtain ⟨k3, h2, h7⟩ := hF
        obtain ⟨e1, e2⟩ := h2 (hr 2 rfl) hL
        refine StepIn.go rfl (fun K hK => ?_)
        clear c2
        go_simp
        refine ⟨trivial, (callsIn_wide.2 (c3 _ _ _ _ (cell_keep q4 k3) (q5.below k3) e2 e1)).mono ?_⟩
        rintro e w2 ⟨rfl, b3⟩
        exact hK g _ ⟨Keeps.next k3 b3, fun _ h => (by cases h), fun h => ⟨(h7 h).1, (h7 h).2.later b3⟩⟩
      refine StepsIn.cons rfl (fun g L w' hL hr hc hF => ?_) ?_
      · obtain ⟨k3, h2, h7⟩ := hF
        have cw := (aG.later k3).cell 0
        simp only [List.getElem?_toArray, List.getElem?_cons_zero] at cw
        refine StepIn.go rfl (fun K hK => ?_)
        clear c2 c3
        go_simp
        exact hK g _ ⟨k3, h2, h7⟩
      refine StepsIn.cons rfl (fun g L w' hL hr hc hF => ?_) ?_
      · obtain ⟨k3, h2, h7⟩ := hF
        have cw := (aG.later k3).cell 0
        simp only [List.getElem?_toArray, List.getElem?_cons_zero] at cw
        refine StepIn.go rfl (fun K hK => ?_)
        clear c2 c3
        go_simp
        exact hK g _ ⟨k3, h2, h7⟩
      refine StepsIn.cons rfl (fun g L w' hL hr hc hF => ?_) ?_
      · obtain ⟨k3, h2, h7⟩ := hF
        have cw := (aG.later k3).cell 0
        simp only [List.getElem?_toArray, List.getElem?_cons_zero] at cw
        refine StepIn.go rfl (fun K hK => ?_)
        clear c2 c3
        go_simp
        exact hK g _ ⟨k3, h2, h7⟩
      refine StepsIn.cons rfl (fun g L w' hL hr hc hF => ?_) ?_
      · obtain ⟨k3, h2, h7⟩ := hF
        refine StepIn.go rfl (fun K hK => ?_)
        clear c2 c3
        go_simp
        refine hK (g.1, w'.heap.size) _ ⟨Keeps.alloc k3 _, fun a b => ⟨(h2 a b).1.alloc _, (h2 a b).2.alloc _⟩, fun _ => ⟨k3.size, ?_⟩⟩
        have h9 : L 9 = false := hc.not 9 7 rfl rfl hL
        rw [show add L 7 9 = L 9 from rfl, h9, if_neg (by simp)]
        exact At.new _ _ _
      refine StepsIn.cons rfl (fun g L w' hL hr hc hF => ?_) ?_
      · obtain ⟨k3, h2, h7⟩ := hF
        have cw := (aG.later k3).cell 0
        simp only [List.getElem?_toArray, List.getElem?_cons_zero] at cw
        refine StepIn.go rfl (fun K hK => ?_)
        clear c2 c3
        go_simp
        exact hK g _ ⟨k3, h2, h7⟩
      refine StepsIn.cons rfl (fun g L w' hL hr hc hF => ?_) ?_
      · obtain ⟨k3, h2, h7⟩ := hF
        obtain ⟨z7, a7⟩ := h7 (hr 7 rfl)
        rw [hL, if_neg (by simp)] at a7
        have p7 := a7.cell 0
        have f7 := a7.frozen 0
        simp only [List.getElem?_toArray, List.getElem?_cons_zero] at p7
        have l3 : L 3 = true := hc 4 _ rfl (hc 6 _ rfl (hr 6 rfl) 4 rfl) 3 rfl
        refine StepIn.go rfl (fun K hK => ?_)
        clear c2 c3
        go_simp
        refine hK g _ ⟨Keeps.setp k3 _ z7 _ _, fun _ h => ?_, fun _ => ⟨z7, ?_⟩⟩
        · rw [show add L 9 3 = L 3 from rfl, l3] at h; cases h
        · rw [if_pos (add_same L _)]; exact a7.set 0 _
      exact StepsIn.nil (by simp)
  case fin =>
  intro g L w5 hall hF
  obtain ⟨k5, _, h7⟩ := hF
  obtain ⟨z9, a9⟩ := h7 (hall 7 (by simp))
  rw [hall 9 (by simp), if_pos rfl] at a9
  clear hall h7 c3
  obtain ⟨g1, b9⟩ := g
  simp only at z9 a9
  have aG5 := aG.later k5
  have aB5 := aB4.later k5
  have q6 := cell_keep q4 k5
  have q7 := q5.below k5
  have kw5 := Keeps.next kw4 k5
  gi_wp2_with fail
  refine ⟨trivial, (callsIn_wide.2 (c2 _)).mono ?_⟩
  rintro e Y ⟨rfl, hY⟩
  have hYs : Y.heap.size = w5.heap.size + 3 := by rw [← hY]; simp
  have aGY : At Y bg 58 #[.pointer (some ⟨B, 0, none⟩)] := by rw [← hY]; exact ((aG5.alloc _).alloc _).alloc _
  have a9Y : At Y b9 3 #[.int .i64 p.2] := by rw [← hY]; exact ((a9.alloc _).alloc _).alloc _
  have a10Y : At Y w5.heap.size 3 #[.int .i64 0] := by rw [← hY]; exact ((At.new _ _ _).alloc _).alloc _
  have e1Y : At Y (w5.heap.size + 1) 3 #[.int .i64 ((v : Int) + 1)] := by rw [← hY]; exact (At.new' _ _ (by simp) _ _).alloc _
  have e2Y : At Y (w5.heap.size + 1 + 1) 60 #[.int .u16 ((2048 : Nat) : Int)] := by rw [← hY]; exact At.new' _ _ (by simp) _ _
  have kY : Keeps w5 Y := by rw [← hY]; exact Keeps.alloc (Keeps.alloc (Keeps.alloc (Below.refl _ _) _) _) _
  have hkY := Keeps.next kw5 kY
  have aBY := aB5.later kY
  have lG := aB5.lt
  have lB := aG5.lt
  have l9 := a9.lt
  clear hY c2 q6 q7 aG5 a9 kY q4 q5 aG aB4 aB5
  gi_wp2_with fail
  have hit := sides_iter v (2 ^ v) hv12 (by rw [hp]; decide) (w5.heap.size + 1 + 1) (w5.heap.size + 1) (fun r => r = w5.heap.size + 1 + 1 ∨ r = w5.heap.size + 1) (.inl rfl) (.inr rfl) Y (fun r h => by omega) (by rw [hp]; exact e2Y) e1Y
  have hsx := sds_lt (bt v) (2 ^ v) (by rw [hp]; decide)
  have hsz : (sds (bt v) (2 ^ v)).length ≤ 2048 := by
    rw [sds_length]
    exact Nat.le_trans (Nat.pow_le_pow_right (by decide) (show v ≤ 11 by omega)) (by decide)
  rw [show sds (bt v) (2 ^ v) = xs from HXS.out] at hit hsx hsz
  have hwb := kw5.size
  clear e1Y e2Y HXS hp
  generalize w5.heap.size = bc at *
  clear k5 kw5 kw4 k4 b1 hB z9
  refine range_mine xs (gf := 68) (lb := #[.pointer (some ⟨bc + 1 + 1, 0, none⟩), .pointer (some ⟨bc + 1, 0, none⟩)]) rfl (enters_of Try.func68 (by kernel_rfl) rfl)
    hit (fun _ _ => rfl) (fun r h => by omega) (fun _ _ _ _ _ _ => trivial)
    (fun j M Z => At Z B 103 (gc ((v : Int) + 1) V (jK l l.length)) ∧ At Z bg 58 #[.pointer (some ⟨B, 0, none⟩)] ∧ At Z b9 3 #[.int .i64 p.2] ∧ At Z bc 3 #[.int .i64 (cntV f p.2 (xs.take j) : Nat)] ∧ Below w.heap.size w Z) (fun _ _ _ => False)
    (fun j M Z Z' ⟨h0, h1, h2, h3, h5⟩ hh => ⟨h0.holds hh (.inl (by omega)), h1.holds hh (.inl (by omega)), h2.holds hh (.inl (by omega)), h3.holds hh (.inl (by omega)), ((Holds.of_below h5).trans2 hh (fun r _ h => .inl (by omega))).below (Nat.le_refl _)⟩) (fun _ _ _ _ h _ => h)
    ⟨aBY, aGY, a9Y, a10Y, hkY⟩
    (fun x a' _ => a' = { tmps := #[.int .i64 ((v : Int) + 1), V, undef, undef, .int .i64 0, .int .i64 0, .pointer (some ⟨bg, 0, none⟩), .bool true, .int .u16 p.1, .pointer (some ⟨b9, 0, none⟩), .pointer (some ⟨bc, 0, none⟩), .int .u16 x,
      .tuple #[.pointer (some ⟨B, 0, none⟩), .bool true], .int .i64 ((v : Int) + 1), V, .tuple #[.pointer (some ⟨B, 0, none⟩), .bool true], .pointer (some ⟨B, 0, none⟩), .bool true, .bool true, .bool false, .tuple #[.int .u16 p.1, .int .i64 p.2], .pointer (some ⟨B, 0, none⟩), .int .i64 ((v : Int) + 1),
      .func (.func 68) #[] #[.pointer (some ⟨g1 + 1, 0, none⟩), .pointer (some ⟨g1, 0, none⟩)], .tuple #[.int .u16 p.1, .int .i64 p.2], .int .u16 p.1, .int .i64 p.2, .int .i64 ((v : Int) + 1),
      .func (.func 68) #[] #[.pointer (some ⟨bc + 1 + 1, 0, none⟩), .pointer (some ⟨bc + 1, 0, none⟩)], .int .u16 x, undef, undef, undef, undef, undef, undef, undef, undef], defers := [] })
    (fun _ _ _ _ _ h => h) ?assign ?body ?done ?stop
  case assign =>
    intro l' j x M1 Z _ _ _ hsz
    have HYs := Lib.hid hYs
    clear hYs
    simp only [encB]
    gi_wp2
    exact ⟨Holds.refl _ _, trivial⟩
  case body =>
    rintro l' j x M1 a' Z hx ⟨hg0, hp2, h92, hc2, hbel⟩ hM1 hKin _ rfl hsZ
    have hxl := hsx x (List.mem_of_getElem? hx)
    have hj := (List.getElem?_eq_some_iff.1 hx).1
    have Hbt := Lib.hid (cntV_take f p.2 xs j x hx)
    have HYs := Lib.hid hYs
    have hqz := gc_edges hg0
    have hvz := HV.out.below hbel
    have hv1 := fun z (kz : Keeps Z z) => hvc B x z hxl (cell_keep hqz kz) (hvz.below kz)
    have hcj : cntV f p.2 (xs.take j) ≤ j := Nat.le_trans (List.length_filter_le _ _) (by rw [List.length_take]; omega)
    generalize cntV f p.2 (xs.take j) = C at *
    obtain ⟨b, hb⟩ : ∃ b, decide (f x = p.2) = b := ⟨_, rfl⟩
    have hb' : (f x == p.2) = b := by rw [← hb]; by_cases h : f x = p.2 <;> simp [h]
    have qC : IntKind.i64.wrap ((C : Int) + 1) = (C : Int) + 1 := IntWalk.i64_in _ (by omega)
    clear hYs hx hvc hsx hit hqz hvz
    gi_wp2_with fail
    refine region_earlyIn [] (G := Unit) (f := ?f2) (fun _ => [.pointer (some ⟨B, 0, none⟩), .int .u16 x, .int .i64 (f x), .int .i64 p.2, .bool b])
      (fun _ L w' => Keeps Z w') () (fun _ => ?hf2) (by kernel_rfl) (by kernel_rfl) (by kernel_rfl) (fun _ h => by cases h) (keeps_dr (Below.refl _ _)) ?steps2 ?fin2
    case hf2 =>
      simp only [fill, List.toList_toArray, List.zip_cons_cons, List.zip_nil_left, List.zip_nil_right, List.foldl_cons, List.foldl_nil, Act.put, List.setIfInBounds_toArray, List.set_cons_succ, List.set_cons_zero]
      exact rfl
    case steps2 =>
      refine StepsIn.cons rfl (fun g L w' hL hr hc hF => ?_) ?_
      · have k3 : Keeps Z w' := hF
        have cw := (hp2.later k3).cell 0
        simp only [List.getElem?_toArray, List.getElem?_cons_zero] at cw
        refine StepIn.go rfl (fun K hK => ?_)
        clear hv1
        go_simp
        exact hK () _ k3
      refine StepsIn.cons rfl (fun g L w' hL hr hc hF => ?_) ?_
      · have k3 : Keeps Z w' := hF
        refine StepIn.go rfl (fun K hK => ?_)
        clear hv1
        go_simp
        exact hK () _ k3
      refine StepsIn.cons rfl (fun g L w' hL hr hc hF => ?_) ?_
      · have k3 : Keeps Z w' := hF
        refine StepIn.go rfl (fun K hK => ?_)
        go_simp
        refine ⟨trivial, ((callsIn_wide.2 (hv1 w' k3)).inRound l').mono ?_⟩
        rintro e w2 ⟨rfl, b3⟩
        exact hK () _ (Keeps.next k3 b3)
      refine StepsIn.cons rfl (fun g L w' hL hr hc hF => ?_) ?_
      · have k3 : Keeps Z w' := hF
        have cw := (h92.later k3).cell 0
        simp only [List.getElem?_toArray, List.getElem?_cons_zero] at cw
        refine StepIn.go rfl (fun K hK => ?_)
        clear hv1
        go_simp
        exact hK () _ k3
      refine StepsIn.cons rfl (fun g L w' hL hr hc hF => ?_) ?_
      · have k3 : Keeps Z w' := hF
        refine StepIn.go rfl (fun K hK => ?_)
        clear hv1
        go_simp
        exact hK () _ k3
      exact StepsIn.nil (by simp)
    case fin2 =>
    intro g L w2 hall hk2
    clear hall hv1
    have hg3 := hg0.later hk2
    have hp3 := hp2.later hk2
    have h93 := h92.later hk2
    have hc3 := hc2.later hk2
    have hbel3 := Keeps.next hbel hk2
    have cc := hc3.cell 0
    have fc := hc3.frozen 0
    simp only [List.getElem?_toArray, List.getElem?_cons_zero] at cc
    have hHk : Holds (fun r => (r = bc + 1 + 1 ∨ r = bc + 1) ∨ (Y.heap.size ≤ r ∧ ¬ M1 r)) Z w2 := Holds.of_keeps hk2 _
    have hz2 := hk2.size
    have HB := Lib.hid hb
    clear hb hb'
    cases b
    · gi_wp2_with fail
      refine ⟨M1, fun r hr => Nat.lt_of_lt_of_le (hM1 r hr).2 hz2, fun r h => .inl h, hHk, ?_⟩
      dsimp only
      rw [Hbt.out, if_neg (by simpa using HB.out)]
      exact ⟨hg3, hp3, h93, hc3, hbel3⟩
    · gi_wp2_with fail
      have hYs := HYs.out
      refine ⟨M1, fun r hr => Nat.lt_of_lt_of_le (hM1 r hr).2 (by simpa [World.setCell] using hz2), fun r h => .inl h, hHk.set _ (by simp; omega) _, ?_⟩
      dsimp only
      rw [Hbt.out, if_pos (by simpa using HB.out)]
      refine ⟨hg3.far (by simp; omega) _, hp3.far (by simp; omega) _, h93.far (by simp; omega) _, ?_, Keeps.setp hbel3 _ (by omega) _ _⟩
      exact hc3.set 0 _
  case done =>
    rintro M1 Z ⟨hg0, hp2, h92, hc2, hbel⟩ hK hM1
    rw [List.take_length] at hc2
    have cc := hc2.cell 0
    simp only [List.getElem?_toArray, List.getElem?_cons_zero] at cc
    have HYs := Lib.hid hYs
    have HK := Lib.hid hK
    clear hYs hK
    gi_wp2_with fail
    have hYs := HYs.out
    refine ⟨by simp, .inl ⟨_, _, rfl, run_takeDeferred (w := Z) HK.out, ?_⟩⟩
    exact ⟨_, results_tmp2 Try.results22 _ _ _, rfl, ((Holds.of_below hbel).put _ (by omega) _).below (Nat.le_refl _)⟩
  case stop =>
    rintro j M1 Z h _ _
    exact h.elim
end Go.Proofs.Ytngonghgkeobhaa
