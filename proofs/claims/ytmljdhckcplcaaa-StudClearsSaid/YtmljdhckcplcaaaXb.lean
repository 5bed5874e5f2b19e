/- The walk of Triangle. -/
import Derived.Test.YtmljdhckcplcaaaXa
import Derived.Test.YtmljdhckcplcaaaSk
import Derived.Test.YtmljdhckcplcaaaUb
import Derived.OwnWalkIn
import Derived.Deep.AppendLies
namespace Go.Proofs.Ytmljdhckcplcaaa
open Go.RowKit Go.Shelf
set_option linter.unusedVariables false
set_option linter.unusedSimpArgs false
attribute [local go_sem] Oper.semAt_some

theorem holds_drew {K : Nat → Prop} (w : World) : Holds K w w.drew := ⟨rfl, rfl, rfl, Nat.le_refl _, fun _ _ _ => rfl⟩
theorem holds_cell {K : Nat → Prop} {a w : World} (h : Holds K a w) (b i : Nat) (hb : ¬ K b) (u : Value) : Holds K a (w.setCell ⟨b, i, none⟩ u) := h.set _ hb _
theorem op_append {F : Fence} {n : Nat} {P : Program} (w : World) {o : Oper} {a : Act} {K : Act → World → Prop} {Q : Exit → Act → World → Prop}
    (s x : Operand) (t : TypeId) (hop : o.op = Op.call { callee := Callee.builtin Builtin.append, args := #[s, x], argTypes := #[t, t] })
    (base : Nat) (e : TypeId) (i : TypeInfo) (z : Value) (size bytes : Nat) (h1 : P.underlying t = some (.slice e)) (h2 : P.info? e = some i) (h3 : i.zero = some z) (h4 : i.size = size) (h5 : i.bytes = bytes) (h6 : z.cells.size = size) (h7 : 0 < size)
    (v : Value) (k : Nat) (xs : List Value) (hs : a.eval s = v) (hown : w.ownsRow base e size v k xs) (ad : Addr) (m c : Nat) (news : List Value) (hx : a.eval x = .slice (some ad) m c) (hn : news.length = m * size)
    (hc : ∀ j u, news[j]? = some u → w.cell? (ad.add j) = some u) (h1c : ∀ u ∈ news, u.oneCell' = true) (b1 : k + m ≤ maxLen) (b2 : (k + m) * bytes ≤ 140737488355328) (b3 : base ≤ w.heap.size) (hm : 0 < m)
    (hK : ∀ g cap w', w'.ownsRow base e size (.slice (some ⟨g, 0, none⟩) (k + m) cap) (k + m) (xs ++ news) → w.grownBy w' v.ownBlock → (v.ownBlock = some g ∨ g = w.heap.size) → K (a.put o.dst (.slice (some ⟨g, 0, none⟩) (k + m) cap)) w') :
    o.wpIn F n P a w K Q := by
  obtain ⟨g, cap, w', hrun, r1, r2, r3, _⟩ := run_append_lies (P := P) w t o.type base e i z size bytes h1 h2 h3 h4 h5 h6 h7 v k xs hown ad m c news hn hc h1c hm b1 b2 b3 w.heap.size rfl
  unfold Oper.wpIn
  refine ⟨?_, ?_⟩
  · simp [Oper.about, hop, resolve, Target.leads, Sem.run_pure]
  · rw [Oper.semAt_plain F _ _ (by rw [hop]; intro c hc'; cases hc')]
    simp [execOp, hop, resolve, invoke, builtin, hs, hx, hrun, Result.andThen]
    exact hK _ _ _ r1 r2 r3

theorem triangle_no (A : Option Addr) (n c : Nat) (l : List Int) (ho : ordB l = false) (w : World) (hv : RdI w (.slice A n c) l) :
    Calls Try.prog 9 #[.slice A n c] w fun e w' => e = .returned (.tuple #[.slice none 0 0, .int .i64 2]) ∧ Keeps w w' := by
  have hor := fun x hx => isOrder_c (.slice A n c) l x hx
  rw [ho] at hor
  go_enter Try.func9, Try.ntmps9
  go_wp2_with (go_at_call 22; refine (hor _ hv).mono ?_; rintro e w1 ⟨rfl, hb1⟩)
  go_ret2
  exact ⟨rfl, hb1⟩
set_option maxHeartbeats 4000000 in
set_option maxRecDepth 100000 in
theorem triangle_yes (A : Option Addr) (c : Nat) (l : List Int) (ho : ordB l = true) (w : World) (hv : RdI w (.slice A l.length c) l) :
    Calls Try.prog 9 #[.slice A l.length c] w fun e w' => ∃ v, e = .returned (.tuple #[v, .int .i64 0]) ∧ RdT w' v (triL l) ∧ Keeps w w' := by
  have hor := fun x hx => isOrder_c (.slice A l.length c) l x hx
  obtain ⟨ho1, ho2, ho3, ho4⟩ := ordB_parts l ho
  have hlow := low_all l l.length (by omega) ho3
  rw [ho] at hor
  have Ho4 := Lib.hid ho4
  have Ho3 := Lib.hid ho3
  have hmk := makeT ((l.length : Int) - 1) (l.length - 1) (by omega) (by omega)
  clear ho ho4 ho3
  refine (callsIn_wide (n := 5)).1 ?_
  refine callsIn_of_wp_marks Try.func9 rfl trivial ?_ rfl
  simp only [Try.ntmps9, List.size_toArray, List.length_cons, List.length_nil, Nat.reduceAdd, Nat.reduceSub, Array.replicate_succ, Array.replicate_zero, List.push_toArray, List.append_toArray, List.nil_append, List.cons_append]
  gi_wp2_with fail
  refine ⟨trivial, (callsIn_wide.2 (hor _ hv)).mono ?_⟩
  rintro e w1 ⟨rfl, hb1⟩
  gi_wp2_with fail
  clear hmk hor
  have hv1 := hv.below hb1
  have hwl := hb1.size
  refine ⟨trivial, (callsIn_wide.2 (steps_c A l.length c _)).mono ?_⟩
  rintro e w2 ⟨rfl, rfl⟩
  gi_wp2_with fail
  obtain ⟨Y, hY⟩ : ∃ Y, ((w1.alloc (.cells (Array.replicate (l.length - 1) (Value.slice none 0 0)) 22)).alloc (.cells #[.slice (some ⟨w1.heap.size, 0, none⟩) (l.length - 1) (l.length - 1)] 28)).alloc (.cells #[.slice A l.length c] 22) = Y := ⟨_, rfl⟩
  have hYs : Y.heap.size = w1.heap.size + 3 := by rw [← hY]; simp
  have hTY : At Y w1.heap.size 22 (Array.replicate (l.length - 1) (Value.slice none 0 0)) := by rw [← hY]; exact ((At.new w1 _ _).alloc _).alloc _
  have hbY : At Y (w1.heap.size + 1) 28 #[.slice (some ⟨w1.heap.size, 0, none⟩) (l.length - 1) (l.length - 1)] := by rw [← hY]; exact (At.new2 w1 _ _ _).alloc _
  have hxY : At Y (w1.heap.size + 1 + 1) 22 #[.slice A l.length c] := by rw [← hY]; exact At.new' _ _ (by simp) _ _
  have hkY : Keeps w1 Y := by rw [← hY]; exact Keeps.alloc (Keeps.alloc (Keeps.alloc (Below.refl _ _) _) _) _
  rw [hY]
  clear hY
  have t0 := TR.nil w1.heap.size Y w1.heap.size (l.length - 1) hTY
  rw [← triK_zero] at t0
  have hvK : ∀ X', Holds (fun r => r < w1.heap.size ∨ r = w1.heap.size + 1 + 1) Y X' → RdI X' (.slice A l.length c) l := fun X' hh => hv1.below ((Holds.of_below hkY).trans2 hh (fun r _ h => .inl h) |>.below (Nat.le_refl _))
  refine range_mine (prs l.length) (gf := 33) (lb := #[.pointer (some ⟨w1.heap.size + 1 + 1, 0, none⟩)]) rfl (enters_of Try.func33 (by kernel_rfl) rfl)
    (steps_iter A c l hlow (w1.heap.size + 1 + 1) (fun r => r < w1.heap.size ∨ r = w1.heap.size + 1 + 1) (.inr rfl) Y (fun r h => by omega) hxY hvK)
    (fun _ _ => rfl) (fun r h => by omega) (fun _ _ _ _ _ _ => trivial)
    (fun k M Z => (∃ us, TR w1.heap.size M Z w1.heap.size us (triK l k)) ∧ At Z (w1.heap.size + 1) 28 #[.slice (some ⟨w1.heap.size, 0, none⟩) (l.length - 1) (l.length - 1)] ∧ Below w1.heap.size w1 Z) (fun _ _ _ => False)
    (fun k M Z Z' h hh => ⟨h.1.imp (fun us h => h.holds hh (.inl (by omega)) (fun r h => .inr h)), h.2.1.holds hh (.inl (by omega)), ((Holds.of_below h.2.2).trans2 hh (fun r _ h => .inl (by omega))).below (Nat.le_refl _)⟩) (fun _ _ _ _ h _ => h) ⟨⟨_, t0⟩, hbY, hkY⟩
    (fun x a' Z => ∃ b6, Y.heap.size + 2 ≤ b6 ∧ At Z b6 54 (ic [stp1 l x.1 x.2, stp2 l x.1 x.2]) ∧ a' = { tmps := #[.slice A l.length c, undef, .slice none 0 0, .int .i64 0, .pointer (some ⟨w1.heap.size + 1, 0, none⟩), undef, .pointer (some ⟨b6, 0, none⟩), .slice A l.length c, .bool true, .bool false, .slice A l.length c, .int .i64 l.length, .int .i64 ((l.length : Int) - 1), .slice (some ⟨w1.heap.size, 0, none⟩) (l.length - 1) (l.length - 1), .slice A l.length c, .func (.func 33) #[] #[.pointer (some ⟨w1.heap.size + 1 + 1, 0, none⟩)],
      .agg #[.int .i64 x.1, .int .i64 x.2], .agg #[.int .i64 (stp1 l x.1 x.2), .int .i64 (stp2 l x.1 x.2)], undef, undef, undef, undef, undef, undef, undef, undef, undef, undef, undef, undef, undef, undef, undef, undef], defers := [] })
    (fun x a Z Z' hh ⟨b6, g6, h6, h7⟩ => ⟨b6, g6, h6.holds hh (by omega), h7⟩) ?assign ?body ?done ?stop
  case assign =>
    intro l' j x M1 Z hx _ _ hsz
    simp only [encS]
    have HYs := Lib.hid hYs
    have Hx := Lib.hid hx
    clear hYs hx
    gi_wp2_with (refine in_store_row rfl 54 _ _ rfl Z.heap.size (ic [stp1 l x.1 x.2, stp2 l x.1 x.2]) rfl rfl 54 (ic [0, 0]) (At.new Z 54 _) (sizeSt _ _) rfl (ic_one _) ?_)
    exact ⟨Holds.mono (Holds.row (K := fun r => r < Z.heap.size) ((Holds.refl _ Z).alloc _) _ (by omega) _) (fun r hr _ => hr), Z.heap.size, hsz, (At.new Z 54 (ic [0, 0])).row _, rfl⟩
  case body =>
    rintro l' j x M1 a' Z hx ⟨⟨us, hT⟩, hB, hbel⟩ hM1 hKin _ ⟨b6, g6, h6, rfl⟩ hsz
    obtain ⟨hp1, hp2⟩ := prs_mem _ _ (List.mem_of_getElem? hx)
    obtain ⟨d, hd⟩ : ∃ d, x.2 = x.1 + (d + 1) := ⟨x.2 - x.1 - 1, by omega⟩
    have hdn : d < l.length - 1 := by omega
    obtain ⟨hk1, hk2⟩ := triK_succ l j d x hx hd hdn
    have hdu : d < us.length := by rw [hT.len, triK_len]; exact hdn
    obtain ⟨y, hy⟩ : ∃ y, us[d]? = some y := ⟨_, List.getElem?_eq_getElem hdu⟩
    obtain ⟨xs', hxs', hyo⟩ := hT.row d y hy
    rw [hk1] at hxs'
    have hxl := rowT_len l j d
    have hpl := prs_len l.length
    have h256 : l.length * l.length ≤ 256 := Nat.le_trans (Nat.mul_le_mul ho2 ho2) (by decide)
    generalize rowT l ((prs l.length).take j) d = xs at *
    obtain rfl : xs = xs' := by simpa using hxs'
    have hxm : xs.length ≤ 256 := by omega
    have hU : stp1 l x.1 x.2 = (d : Int) + 1 := by unfold stp1; omega
    have hX : dif l x = stp2 l x.1 x.2 := rfl
    rw [hX] at hk2
    have Hk2 := Lib.hid hk2
    have Hk1 := Lib.hid hk1
    obtain ⟨i0, hi, hz0, hz1, hz2⟩ := info_parts infoI
    have nB : some (w1.heap.size + 1) ≠ y.ownBlock := own_ne hyo hB (by decide)
    have n6 : some b6 ≠ y.ownBlock := own_ne hyo h6 (by decide)
    have hU1 : IntKind.i64.wrap (stp1 l x.1 x.2 - 1) = (d : Int) := by rw [hU, IntWalk.i64_in _ (by omega)]; omega
    have hdI : (d : Int) < ((l.length - 1 : Nat) : Int) := by omega
    have HU := Lib.hid hU
    clear hk1 hk2 hX hU hd hp1 hp2 hx
    generalize stp1 l x.1 x.2 = U at *
    generalize stp2 l x.1 x.2 = X at *
    have HYs := Lib.hid hYs
    refine wpIn_block ?_
    refine region_earlyIn [] (G := Nat × Value) (f := ?f) (fun G => [.slice (some ⟨w1.heap.size, 0, none⟩) (l.length - 1) (l.length - 1), .pointer (some ⟨b6, 0, none⟩), .int .i64 U, .int .i64 d, .slice (some ⟨w1.heap.size, 0, none⟩) (l.length - 1) (l.length - 1), .pointer (some ⟨b6, 0, none⟩), .int .i64 U, .int .i64 d, .pointer (some ⟨w1.heap.size, d, none⟩), y, .pointer (some ⟨b6, 1, none⟩), .int .i64 X, .slice (some ⟨G.1, 0, none⟩) 1 1, G.2, .pointer (some ⟨w1.heap.size, d, none⟩), undef])
      (fun G L w' => Holds (fun r => r ≠ w1.heap.size ∧ some r ≠ y.ownBlock) Z w' ∧ (L 15 = false → At w' w1.heap.size 22 us.toArray) ∧ (L 15 = true → At w' w1.heap.size 22 (us.set d G.2).toArray) ∧ (L 13 = false → w'.ownsRow w1.heap.size 3 1 y xs.length (xs.map (Value.int .i64))) ∧ (L 13 = true → w'.ownsRow w1.heap.size 3 1 G.2 (xs.length + 1) (xs.map (Value.int .i64) ++ [.int .i64 X]) ∧ ∀ g, G.2.ownBlock = some g → y.ownBlock = some g ∨ Z.heap.size ≤ g) ∧ (L 12 = true → L 13 = false → At w' G.1 3 #[.int .i64 X]))
      (0, undef) (fun _ => ?hf) (by kernel_rfl) (by kernel_rfl) (by kernel_rfl) (fun _ h => by cases h) ⟨holds_drew Z, fun _ => hT.at_.drew, fun h => (by cases h), fun _ => hyo, fun h => (by cases h), fun h => (by cases h)⟩ ?steps ?fin
    case hf =>
      simp only [fill, List.toList_toArray, List.zip_cons_cons, List.zip_nil_left, List.zip_nil_right, List.foldl_cons, List.foldl_nil, Act.put, List.setIfInBounds_toArray, List.set_cons_succ, List.set_cons_zero]
      exact rfl
    case steps =>
      refine StepsIn.cons rfl (fun G L w' hL hr hc hF => ?_) ?_
      · obtain ⟨q1, q2, q3, q4, q5, q6⟩ := hF
        have cw : w'.cell? ⟨w1.heap.size + 1, 0, none⟩ = _ := (hB.holds q1 ⟨by omega, nB⟩).cell 0
        simp only [List.getElem?_toArray, List.getElem?_cons_zero] at cw
        refine StepIn.go rfl (fun K hK => ?_)
        go_simp
        exact hK G _ ⟨q1, q2, q3, q4, q5, q6⟩
      refine StepsIn.cons rfl (fun G L w' hL hr hc hF => ?_) ?_
      · obtain ⟨q1, q2, q3, q4, q5, q6⟩ := hF
        refine StepIn.go rfl (fun K hK => ?_)
        go_simp
        exact hK G _ ⟨q1, q2, q3, q4, q5, q6⟩
      refine StepsIn.cons rfl (fun G L w' hL hr hc hF => ?_) ?_
      · obtain ⟨q1, q2, q3, q4, q5, q6⟩ := hF
        have h6w : At w' b6 54 (ic [U, X]) := h6.holds q1 ⟨by omega, n6⟩
        have c0 := h6w.int 0 (by simp)
        have c1 := h6w.int 1 (by simp)
        simp only [nth, List.getElem?_cons_zero, List.getElem?_cons_succ, Option.getD_some] at c0 c1
        refine StepIn.go rfl (fun K hK => ?_)
        go_simp
        exact hK G _ ⟨q1, q2, q3, q4, q5, q6⟩
      refine StepsIn.cons rfl (fun G L w' hL hr hc hF => ?_) ?_
      · obtain ⟨q1, q2, q3, q4, q5, q6⟩ := hF
        refine StepIn.go rfl (fun K hK => ?_)
        go_simp
        exact hK G _ ⟨q1, q2, q3, q4, q5, q6⟩
      refine StepsIn.cons rfl (fun G L w' hL hr hc hF => ?_) ?_
      · obtain ⟨q1, q2, q3, q4, q5, q6⟩ := hF
        have cw : w'.cell? ⟨w1.heap.size + 1, 0, none⟩ = _ := (hB.holds q1 ⟨by omega, nB⟩).cell 0
        simp only [List.getElem?_toArray, List.getElem?_cons_zero] at cw
        refine StepIn.go rfl (fun K hK => ?_)
        go_simp
        exact hK G _ ⟨q1, q2, q3, q4, q5, q6⟩
      refine StepsIn.cons rfl (fun G L w' hL hr hc hF => ?_) ?_
      · obtain ⟨q1, q2, q3, q4, q5, q6⟩ := hF
        refine StepIn.go rfl (fun K hK => ?_)
        go_simp
        exact hK G _ ⟨q1, q2, q3, q4, q5, q6⟩
      refine StepsIn.cons rfl (fun G L w' hL hr hc hF => ?_) ?_
      · obtain ⟨q1, q2, q3, q4, q5, q6⟩ := hF
        have h6w : At w' b6 54 (ic [U, X]) := h6.holds q1 ⟨by omega, n6⟩
        have c0 := h6w.int 0 (by simp)
        have c1 := h6w.int 1 (by simp)
        simp only [nth, List.getElem?_cons_zero, List.getElem?_cons_succ, Option.getD_some] at c0 c1
        refine StepIn.go rfl (fun K hK => ?_)
        go_simp
        exact hK G _ ⟨q1, q2, q3, q4, q5, q6⟩
      refine StepsIn.cons rfl (fun G L w' hL hr hc hF => ?_) ?_
      · obtain ⟨q1, q2, q3, q4, q5, q6⟩ := hF
        refine StepIn.go rfl (fun K hK => ?_)
        go_simp
        exact hK G _ ⟨q1, q2, q3, q4, q5, q6⟩
      refine StepsIn.cons rfl (fun G L w' hL hr hc hF => ?_) ?_
      · obtain ⟨q1, q2, q3, q4, q5, q6⟩ := hF
        refine StepIn.go rfl (fun K hK => ?_)
        go_simp
        exact hK G _ ⟨q1, q2, q3, q4, q5, q6⟩
      refine StepsIn.cons rfl (fun G L w' hL hr hc hF => ?_) ?_
      · obtain ⟨q1, q2, q3, q4, q5, q6⟩ := hF
        have e15 : L 15 = false := hc.not 15 13 rfl rfl (hc.not 13 9 rfl rfl hL)
        have cT : w'.cell? ⟨w1.heap.size, d, none⟩ = some y := by rw [(q2 e15).cell]; simpa using hy
        refine StepIn.go rfl (fun K hK => ?_)
        go_simp
        exact hK G _ ⟨q1, q2, q3, q4, q5, q6⟩
      refine StepsIn.cons rfl (fun G L w' hL hr hc hF => ?_) ?_
      · obtain ⟨q1, q2, q3, q4, q5, q6⟩ := hF
        refine StepIn.go rfl (fun K hK => ?_)
        go_simp
        exact hK G _ ⟨q1, q2, q3, q4, q5, q6⟩
      refine StepsIn.cons rfl (fun G L w' hL hr hc hF => ?_) ?_
      · obtain ⟨q1, q2, q3, q4, q5, q6⟩ := hF
        have h6w : At w' b6 54 (ic [U, X]) := h6.holds q1 ⟨by omega, n6⟩
        have c0 := h6w.int 0 (by simp)
        have c1 := h6w.int 1 (by simp)
        simp only [nth, List.getElem?_cons_zero, List.getElem?_cons_succ, Option.getD_some] at c0 c1
        refine StepIn.go rfl (fun K hK => ?_)
        go_simp
        exact hK G _ ⟨q1, q2, q3, q4, q5, q6⟩
      refine StepsIn.cons rfl (fun G L w' hL hr hc hF => ?_) ?_
      · obtain ⟨q1, q2, q3, q4, q5, q6⟩ := hF
        have e13 : L 13 = false := hc.not 13 12 rfl rfl hL
        refine StepIn.go rfl (fun K hK => ?_)
        go_simp
        exact hK (w'.heap.size, G.2) _ ⟨q1.alloc _, fun h => (q2 h).alloc _, fun h => (q3 h).alloc _, fun h => own_later (q4 h) (Keeps.alloc (Below.refl _ _) _), fun h => (by have h' : L 13 = true := h; rw [e13] at h'; cases h'), fun _ _ => At.new _ _ _⟩
      refine StepsIn.cons rfl (fun G L w' hL hr hc hF => ?_) ?_
      · obtain ⟨q1, q2, q3, q4, q5, q6⟩ := hF
        have h12 := q6 (hr 12 rfl) hL
        have e15 : L 15 = false := hc.not 15 13 rfl rfl hL
        have ho := q4 hL
        have hsw := q1.size
        have hZT := hT.at_.lt
        refine StepIn.go rfl (fun K hK => ?_)
        refine op_append w' (.tmp 27) (.tmp 30) 22 rfl w1.heap.size 3 i0 (.int .i64 0) 1 8 Try.underlying22 hi hz0 hz1 hz2 rfl (by decide) y xs.length (xs.map (Value.int .i64)) rfl ho ⟨G.1, 0, none⟩ 1 1 [.int .i64 X] rfl rfl (World.news_of_block h12) (by simp [Value.oneCell']) (by unfold maxLen; omega) (by omega) (by omega) (by decide) ?_
        intro g5 c5 w5 hown5 hgrow5 hl5
        have hh5 : Holds (fun r => r ≠ w1.heap.size ∧ some r ≠ y.ownBlock) w' w5 := (Holds.refl _ w').grown hgrow5 (fun r hr hk => hk.2 hr.symm)
        have nT : some w1.heap.size ≠ y.ownBlock := own_ne ho (q2 e15) (by decide)
        refine hK (G.1, .slice (some ⟨g5, 0, none⟩) (xs.length + 1) c5) _ ⟨q1.trans hh5, fun h => (q2 h).grown hgrow5 nT, fun h => (by have h' : L 15 = true := h; rw [e15] at h'; cases h'), fun h => (by rw [add_same] at h; cases h), fun _ => ⟨hown5, fun g hg => ?_⟩, fun _ h => (by rw [add_same] at h; cases h)⟩
        obtain rfl : g5 = g := by simpa [Value.ownBlock] using hg
        exact hl5.imp id (fun e => by omega)
      refine StepsIn.cons rfl (fun G L w' hL hr hc hF => ?_) ?_
      · obtain ⟨q1, q2, q3, q4, q5, q6⟩ := hF
        refine StepIn.go rfl (fun K hK => ?_)
        go_simp
        exact hK G _ ⟨q1, q2, q3, q4, q5, q6⟩
      refine StepsIn.cons rfl (fun G L w' hL hr hc hF => ?_) ?_
      · obtain ⟨q1, q2, q3, q4, q5, q6⟩ := hF
        have e13 : L 13 = true := hr 13 rfl
        obtain ⟨o5, n5⟩ := q5 e13
        have aT := q2 hL
        have nT : some w1.heap.size ≠ y.ownBlock := own_ne hyo hT.at_ (by decide)
        have nT5 : ∀ g, G.2.ownBlock = some g → g ≠ w1.heap.size := fun g hg e => own_ne o5 aT (by decide) (by rw [← e, hg])
        have pT : w'.cell? ⟨w1.heap.size, d, none⟩ = some y := by rw [aT.cell]; simpa using hy
        have fT := aT.frozen d
        obtain ⟨G1, v5⟩ := G
        simp only at o5 n5 nT5
        obtain ⟨g5, c5, rfl, -⟩ := own_form o5 (by omega)
        refine StepIn.go rfl (fun K hK => ?_)
        go_simp
        refine hK (G1, _) _ ⟨holds_cell q1 w1.heap.size d (by simp) _, fun h => (by rw [add_same] at h; cases h), fun _ => ?_, fun h => (by have h' : L 13 = false := h; rw [e13] at h'; cases h'), fun _ => ⟨own_holds o5 (holds_cell (Holds.refl (fun r => r ≠ w1.heap.size) w') w1.heap.size d (by simp) _) (fun g hg => nT5 g hg), n5⟩, fun _ h => (by have h' : L 13 = false := h; rw [e13] at h'; cases h')⟩
        have := aT.set d (.slice (some ⟨g5, 0, none⟩) (xs.length + 1) c5)
        rw [List.setIfInBounds_toArray] at this
        exact this
      exact StepsIn.nil (by simp)
    case fin =>
    intro G L w5 hall hF
    obtain ⟨q1, _, q3, _, q5, _⟩ := hF
    have aT := q3 (hall 15 (by simp))
    obtain ⟨o5, n5⟩ := q5 (hall 13 (by simp))
    clear hall q3 q5
    have hs5 := q1.size
    refine ⟨fun r => (M1 r ∨ Z.heap.size ≤ r) ∧ r < w5.heap.size, fun r h => h.2, fun r h => h.1, q1.mono (fun r hr h => ?_), ⟨⟨us.set d G.2, ?_⟩, hB.holds q1 ⟨by omega, nB⟩, ?_⟩⟩
    · have hYs := HYs.out
      refine ⟨fun e => ?_, fun e => ?_⟩
      · rcases h with h | h
        · omega
        · omega
      · have hm := hT.named d y r hy e.symm
        rcases h with h | h
        · have := (hM1 r hm).1; omega
        · exact h.2 hm
    · rw [Hk2.out]
      refine hT.step hy Hk1.out q1 aT (by rw [List.length_append, List.map_append]; exact o5) n5 (fun r h1 h2 => ⟨.inl h1, by omega⟩) (fun r h1 h2 => ⟨.inr h1, h2⟩)
    · refine (((Holds.of_below hbel).trans2 q1 (fun r hr _ => ⟨by omega, fun e => ?_⟩)).below (Nat.le_refl _))
      have := (hM1 r (hT.named d y r hy e.symm)).1
      omega
  case done =>
    rintro M1 Z ⟨⟨us, hT⟩, hB, hbel⟩ hK hM1
    have HYs := Lib.hid hYs
    have HK := Lib.hid hK
    have cb := hB.cell 0
    simp only [List.getElem?_toArray, List.getElem?_cons_zero] at cb
    clear hYs hK
    gi_wp2_with fail
    have hYs := HYs.out
    refine ⟨by simp, .inl ⟨_, _, rfl, run_takeDeferred HK.out, ?_⟩⟩
    refine ⟨_, results_tmp2 Try.results9 _ _ _, .slice (some ⟨w1.heap.size, 0, none⟩) (l.length - 1) (l.length - 1), rfl, ?_, Keeps.next hb1 (((Holds.of_below hbel).put _ (by omega) _).below (Nat.le_refl _))⟩
    have hr : ∀ Z', Holds (fun r => r ≠ Y.heap.size) Z Z' → RdT Z' (.slice (some ⟨w1.heap.size, 0, none⟩) (l.length - 1) (l.length - 1)) (triL l) := fun Z' hh => by
      have hT' := hT.holds hh (by omega) (fun r h => by have := (hM1 r h).1; omega)
      rw [triK_all] at hT'
      have hr := hT'.read (by rw [triL_len]; omega) (fun x hx => by have := triL_row l x hx; omega) (l.length - 1)
      rw [triL_len] at hr
      exact hr
    exact hr _ ((Holds.refl _ Z).put Y.heap.size (by simp) _)
  case stop =>
    rintro j M1 Z h _ _
    exact h.elim
end Go.Proofs.Ytmljdhckcplcaaa
