/- The first side with the greatest value: best. -/
import Derived.Test.YtngonghgkeobhaaBg
import Derived.Test.YtngonghgkeobhaaUb
import Derived.Laws.IdiomStrings
namespace Go.Proofs.Ytngonghgkeobhaa
open Go.RowKit Go.Shelf
set_option linter.unusedVariables false
set_option linter.unusedSimpArgs false
attribute [local go_sem] Oper.semAt_some

def bstep (f : Nat → Int) (p : Nat × Int) (s : Nat) : Nat × Int := if p.2 < f s then (s, f s) else p
/-- The first one of some sides with the greatest value, and the value. -/
def bst (f : Nat → Int) (l : List Nat) : Nat × Int := l.foldl (bstep f) (0, -9223372036854775808)
theorem bst_take (f : Nat → Int) (l : List Nat) (k x : Nat) (h : l[k]? = some x) : bst f (l.take (k + 1)) = bstep f (bst f (l.take k)) x := by
  rw [take_at l k x h]; simp [bst]
theorem properSides_c (v : Nat) (w : World) :
    Calls Try.prog 35 #[.int .i64 ((v : Int) + 1)] w fun e w' => e = .returned (.func (.func 68) #[] #[.pointer (some ⟨w.heap.size + 1, 0, none⟩), .pointer (some ⟨w.heap.size, 0, none⟩)]) ∧ (w.alloc (.cells #[.int .i64 ((v : Int) + 1)] 3)).alloc (.cells #[.int .u16 2048] 60) = w' := by
  have c1 := fun z => bitOf_c 0 (by decide) z
  have c2 := fun z => sidesBelow_c ((v : Int) + 1) 2048 z
  go_enter Try.func35, Try.ntmps35
  go_wp2_with (first
    | (go_at_call 54; refine (c1 _).mono ?_; rintro e w1 ⟨rfl, rfl⟩)
    | (go_at_call 53; refine (c2 _).mono ?_; rintro e w2 ⟨rfl, rfl⟩))
  go_ret
  exact ⟨rfl, rfl⟩
set_option maxHeartbeats 4000000 in
set_option maxRecDepth 100000 in
theorem best_c (v m : Nat) (hv : v < 12) (hm : m * bt v ≤ 4096) (g b1 b2 : Nat) (V : Value) (l : List Ed) (hl : edgesOk l) (w : World) (hg : w.cell? ⟨g, 1, none⟩ = some V) (hV : RdE w V l)
    (ha1 : At w b1 60 #[.int .u16 ((m * bt v : Nat) : Int)]) (ha2 : At w b2 3 #[.int .i64 ((v : Int) + 1)]) :
    Calls Try.prog 34 #[.pointer (some ⟨g, 0, none⟩), .func (.func 68) #[] #[.pointer (some ⟨b1, 0, none⟩), .pointer (some ⟨b2, 0, none⟩)]] w fun e w' => e = .returned (.tuple #[.int .u16 (bst (fun s => valL s l) (sds (bt v) m)).1, .int .i64 (bst (fun s => valL s l) (sds (bt v) m)).2]) ∧ Keeps w w' := by
  have hvc := fun s z q1 q2 q3 => value_c g s V l hl q1 z q2 q3
  have l1 := ha1.lt
  have l2 := ha2.lt
  obtain ⟨xs, hxs⟩ : ∃ xs, sds (bt v) m = xs := ⟨_, rfl⟩
  obtain ⟨f, hf⟩ : ∃ f : Nat → Int, (fun s => valL s l) = f := ⟨_, rfl⟩
  have hfx : ∀ x, valL x l = f x := fun x => by rw [← hf]
  simp only [hfx] at hvc
  simp only [hf, hxs]
  refine (callsIn_wide (n := 5)).1 ?_
  refine callsIn_of_wp_marks Try.func34 rfl trivial ?_ rfl
  simp only [Try.ntmps34, List.size_toArray, List.length_cons, List.length_nil, Nat.reduceAdd, Nat.reduceSub, Array.replicate_succ, Array.replicate_zero, List.push_toArray, List.append_toArray, List.nil_append, List.cons_append]
  gi_wp2_with fail
  obtain ⟨Y, hY⟩ : ∃ Y, ((w.alloc (.cells #[.pointer (some ⟨g, 0, none⟩)] 58)).alloc (.cells #[.int .u16 0] 60)).alloc (.cells #[.int .i64 (-9223372036854775808)] 3) = Y := ⟨_, rfl⟩
  have hYs : Y.heap.size = w.heap.size + 3 := by rw [← hY]; simp
  have hpY : At Y w.heap.size 58 #[.pointer (some ⟨g, 0, none⟩)] := by rw [← hY]; exact ((At.new w _ _).alloc _).alloc _
  have hbY : At Y (w.heap.size + 1) 60 #[.int .u16 0] := by rw [← hY]; exact (At.new2 w _ _ _).alloc _
  have hgY : At Y (w.heap.size + 1 + 1) 3 #[.int .i64 (-9223372036854775808)] := by rw [← hY]; exact At.new' _ _ (by simp) _ _
  have hkY : Keeps w Y := by rw [← hY]; exact Keeps.alloc (Keeps.alloc (Keeps.alloc (Below.refl _ _) _) _) _
  rw [hY]
  clear hY
  have hit := sides_iter v m hv hm b1 b2 (fun r => r = b1 ∨ r = b2) (.inl rfl) (.inr rfl) Y (fun r h => by omega) (ha1.later hkY) (ha2.later hkY)
  have hsx : ∀ (j x : Nat), (sds (bt v) m)[j]? = some x → x < 65536 := by
    intro j x hx
    have hj : j < m := by have := (List.getElem?_eq_some_iff.1 hx).1; rwa [sds_length] at this
    rw [sds_at _ _ _ hj] at hx
    obtain rfl := Option.some.inj hx
    have := Nat.mul_le_mul_right (bt v) (Nat.le_of_lt hj)
    omega
  rw [hxs] at hit hsx
  clear hf hxs hfx ha1 ha2 hm
  refine range_mine xs (gf := 68) (lb := #[.pointer (some ⟨b1, 0, none⟩), .pointer (some ⟨b2, 0, none⟩)]) rfl (enters_of Try.func68 (by kernel_rfl) rfl)
    hit (fun _ _ => rfl) (fun r h => by omega) (fun _ _ _ _ _ _ => trivial)
    (fun j M Z => At Z w.heap.size 58 #[.pointer (some ⟨g, 0, none⟩)] ∧ At Z (w.heap.size + 1) 60 #[.int .u16 (bst f (xs.take j)).1] ∧ At Z (w.heap.size + 1 + 1) 3 #[.int .i64 (bst f (xs.take j)).2] ∧ Below w.heap.size w Z) (fun _ _ _ => False)
    (fun j M Z Z' ⟨h1, h2, h3, h5⟩ hh => ⟨h1.holds hh (.inl (by omega)), h2.holds hh (.inl (by omega)), h3.holds hh (.inl (by omega)), ((Holds.of_below h5).trans2 hh (fun r _ h => .inl (by omega))).below (Nat.le_refl _)⟩) (fun _ _ _ _ h _ => h)
    ⟨hpY, hbY, hgY, hkY⟩
    (fun x a' _ => a' = { tmps := #[.pointer (some ⟨g, 0, none⟩), .func (.func 68) #[] #[.pointer (some ⟨b1, 0, none⟩), .pointer (some ⟨b2, 0, none⟩)], .pointer (some ⟨w.heap.size, 0, none⟩), undef, .int .u16 0, .int .i64 0, .pointer (some ⟨w.heap.size + 1, 0, none⟩), .pointer (some ⟨w.heap.size + 1 + 1, 0, none⟩), .int .u16 x, undef,
      .func (.func 68) #[] #[.pointer (some ⟨b1, 0, none⟩), .pointer (some ⟨b2, 0, none⟩)], .int .u16 x, undef, undef, undef, undef, undef, undef, undef, undef, undef, undef], defers := [] })
    (fun _ _ _ _ _ h => h) ?assign ?body ?done ?stop
  case assign =>
    intro l' j x M1 Z _ _ _ hsz
    have HYs := Lib.hid hYs
    clear hYs
    simp only [encB]
    gi_wp2
    exact ⟨Holds.refl _ _, trivial⟩
  case body =>
    rintro l' j x M1 a' Z hx ⟨hp, hb, hgt, hbel⟩ hM1 hKin _ rfl hsz
    have hxl := hsx j x hx
    have Hbt := Lib.hid (bst_take f xs j x hx)
    have cp := hp.cell 0
    simp only [List.getElem?_toArray, List.getElem?_cons_zero] at cp
    have HYs := Lib.hid hYs
    have hv1 := hvc x Z hxl (cell_keep hg hbel) (hV.below hbel)
    generalize bst f (xs.take j) = p at *
    clear hYs hx hvc hsx hit
    gi_wp2_with fail
    refine ⟨trivial, ((callsIn_wide.2 hv1).inRound l').mono ?_⟩
    rintro e w2 ⟨rfl, hk2⟩
    have hp2 := hp.later hk2
    have hb2 := hb.later hk2
    have hgt2 := hgt.later hk2
    have hbel2 := Keeps.next hbel hk2
    have cg := hgt2.cell 0
    have fg := hgt2.frozen 0
    have fb := hb2.frozen 0
    have cb := hb2.cell 0
    simp only [List.getElem?_toArray, List.getElem?_cons_zero] at cg cb
    have hHk : Holds (fun r => (r = b1 ∨ r = b2) ∨ (Y.heap.size ≤ r ∧ ¬ M1 r)) Z w2 := Holds.of_keeps hk2 _
    have hz2 := hk2.size
    clear hv1
    by_cases hgr : p.2 < f x
    · have d : decide (p.2 < f x) = true := decide_eq_true hgr
      gi_wp2_with fail
      have hYs := HYs.out
      refine ⟨M1, fun r hr => Nat.lt_of_lt_of_le (hM1 r hr).2 (by simpa [World.setCell] using hz2), fun r h => .inl h, (hHk.set _ (by simp; omega) _).set _ (by simp; omega) _, ?_⟩
      dsimp only
      rw [Hbt.out]
      simp only [bstep, if_pos hgr]
      exact ⟨(hp2.far (by simp) _).far (by simp; omega) _, (hb2.set 0 _).far (by simp) _, (hgt2.far (by simp) _).set 0 _, Keeps.setp (Keeps.setp hbel2 _ (by omega) _ _) _ (by omega) _ _⟩
    · have d : decide (p.2 < f x) = false := decide_eq_false hgr
      have HG := Lib.hid hgr
      clear hgr
      gi_wp2_with fail
      have hYs := HYs.out
      refine ⟨M1, fun r hr => Nat.lt_of_lt_of_le (hM1 r hr).2 hz2, fun r h => .inl h, hHk, ?_⟩
      dsimp only
      rw [Hbt.out]
      simp only [bstep, if_neg (show ¬ p.2 < f x by have := HG.out; omega)]
      exact ⟨hp2, hb2, hgt2, hbel2⟩
  case done =>
    rintro M1 Z ⟨hp, hb, hgt, hbel⟩ hK hM1
    rw [List.take_length] at hb hgt
    generalize hpp : bst f xs = p at *
    have HP := Lib.hid hpp
    clear hpp
    have cg := hgt.cell 0
    have cb := hb.cell 0
    simp only [List.getElem?_toArray, List.getElem?_cons_zero] at cg cb
    have HYs := Lib.hid hYs
    have HK := Lib.hid hK
    clear hYs hK
    gi_wp2_with fail
    refine region_earlyIn [] (G := Unit) (f := ?f) (fun _ => [.int .u16 p.1, .int .i64 p.2, .int .u16 p.1, .int .i64 p.2]) (fun _ _ w' => w' = Z.drew) () (fun _ => ?hf) (by kernel_rfl) (by kernel_rfl) (by kernel_rfl) (fun _ h => by cases h) rfl ?steps ?fin
    case hf =>
      simp only [fill, List.toList_toArray, List.zip_cons_cons, List.zip_nil_left, List.zip_nil_right, List.foldl_cons, List.foldl_nil, Act.put, List.setIfInBounds_toArray, List.set_cons_succ, List.set_cons_zero]
      exact rfl
    case steps =>
      refine StepsIn.cons rfl (fun g' L w' hL hr hc hF => ?_) ?_
      · subst hF
        refine StepIn.go rfl (fun K hK => ?_)
        go_simp
        exact hK () _ rfl
      refine StepsIn.cons rfl (fun g' L w' hL hr hc hF => ?_) ?_
      · subst hF
        refine StepIn.go rfl (fun K hK => ?_)
        go_simp
        exact hK () _ rfl
      refine StepsIn.cons rfl (fun g' L w' hL hr hc hF => ?_) ?_
      · subst hF
        refine StepIn.go rfl (fun K hK => ?_)
        go_simp
        exact hK () _ rfl
      refine StepsIn.cons rfl (fun g' L w' hL hr hc hF => ?_) ?_
      · subst hF
        refine StepIn.go rfl (fun K hK => ?_)
        go_simp
        exact hK () _ rfl
      exact StepsIn.nil (by simp)
    case fin =>
    intro g' L w3 hall hF
    subst hF
    clear hall
    gi_wp2_with fail
    have hYs := HYs.out
    refine ⟨by simp, .inl ⟨_, _, rfl, run_takeDeferred (w := Z.drew) HK.out, ?_⟩⟩
    exact ⟨_, results_tmp2 Try.results34 _ _ _, by rw [HP.out]; rfl, ((Holds.of_below (below_drewN (n := 1) hbel)).put _ (by omega) _).below (Nat.le_refl _)⟩
  case stop =>
    rintro j M1 Z h _ _
    exact h.elim
end Go.Proofs.Ytngonghgkeobhaa
