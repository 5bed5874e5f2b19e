/- The walk of newGraph, done. -/
import Derived.Test.YtngonghgkeobhaaBc
import Derived.Test.YtngonghgkeobhaaUa
namespace Go.Proofs.Ytngonghgkeobhaa
open Go.RowKit
set_option linter.unusedVariables false
set_option linter.unusedSimpArgs false

/-- What newGraph answers. -/
def GraphIs (n : Int) (v : Value) (l : List Ed) (w : World) (e : Ending) (w' : World) : Prop :=
  (graphB n l = false ∧ e = .returned (.tuple #[.pointer none, .bool false]) ∧ Keeps w w') ∨
  (graphB n l = true ∧ ∃ B, w.heap.size ≤ B ∧ e = .returned (.tuple #[.pointer (some ⟨B, 0, none⟩), .bool true]) ∧ At w' B 103 (gc n v (jK l l.length)) ∧ Keeps w w')
theorem Keeps.setp {a w : World} (h : Keeps a w) (g : Nat) (hg : a.heap.size ≤ g) (o : Nat) (u : Value) : Keeps a (w.setCell ⟨g, o, none⟩ u) := Below.setCell h hg u
set_option maxHeartbeats 4000000 in
set_option maxRecDepth 100000 in
theorem newGraph_c (n : Int) (v : Value) (l : List Ed) (w : World) (hv : RdE w v l) :
    Calls Try.prog 33 #[.int .i64 n, v] w fun e w' => GraphIs n v l w e w' := by
  obtain ⟨A, c, rfl, hm, hcs⟩ := id hv
  by_cases h1 : 1 ≤ n
  rotate_left
  · have d1 : decide (n < 1) = true := by simp; omega
    have hg : graphB n l = false := by unfold graphB; rw [show decide (1 ≤ n ∧ n ≤ 12) = false by simp; omega]; rfl
    clear hcs h1
    go_enter Try.func33, Try.ntmps33
    go_wp2_with fail
    go_ret2
    exact .inl ⟨hg, rfl, Below.refl _ _⟩
  have d1 : decide (n < 1) = false := by simp; omega
  by_cases h2 : n ≤ 12
  rotate_left
  · have d2 : decide (12 < n) = true := by simp; omega
    have hg : graphB n l = false := by unfold graphB; rw [show decide (1 ≤ n ∧ n ≤ 12) = false by simp; omega]; rfl
    clear hcs h1 h2
    go_enter Try.func33, Try.ntmps33
    go_wp2_with fail
    go_ret2
    exact .inl ⟨hg, rfl, Below.refl _ _⟩
  have d2 : decide (12 < n) = false := by simp; omega
  by_cases hl : l.length ≤ 40
  rotate_left
  · have d3 : decide ((40 : Int) < (l.length : Int)) = true := by simp; omega
    have hg : graphB n l = false := by unfold graphB; rw [show decide (l.length ≤ 40) = false by simp; omega]; simp
    clear hcs h1 h2 hl
    go_enter Try.func33, Try.ntmps33
    go_wp2_with fail
    go_ret2
    exact .inl ⟨hg, rfl, Below.refl _ _⟩
  have d3 : decide ((40 : Int) < (l.length : Int)) = false := by simp; omega
  have hgb : graphB n l = goodK n l l.length := by unfold graphB; rw [show decide (1 ≤ n ∧ n ≤ 12) = true by simp; omega, show decide (l.length ≤ 40) = true by simp; omega]; rfl
  have z1 := zero_graph
  have z2 := gc_build n (.slice A l.length c)
  have z3 : (gc 0 (.slice none 0 0) zJ).size = 146 := by simp [gc, zJ]
  have z4 : gc 0 (.slice none 0 0) zJ ≠ #[] := fun e => by have := congrArg Array.size e; rw [z3] at this; cases this
  generalize gc 0 (.slice none 0 0) zJ = Z at *
  obtain ⟨Y, hY⟩ : ∃ Y, gc n (.slice A l.length c) zJ = Y := ⟨_, rfl⟩
  rw [hY] at z2
  have HY := Lib.hid hY
  clear hY
  go_enter Try.func33, Try.ntmps33
  go_upto_region 4 with (fail)
  have g0 := At.new w 103 Y
  have k0 : Keeps w (w.alloc (.cells Y 103)) := Keeps.alloc (Below.refl _ _) _
  generalize (w.alloc (.cells Y 103)) = W at *
  rw [← HY.out] at g0
  clear z1 z2 z3 z4 HY
  go_wp2_with fail
  go_loopw [26] (fun i wr => ∃ k : Nat, k ≤ l.length ∧ goodK n l k = true ∧ i = .int .i64 k ∧ At wr w.heap.size 103 (gc n (.slice A l.length c) (jK l k)) ∧ Keeps w wr) (fun i _ => l.length - (intOf i).toNat)
  case atStart => exact ⟨0, Nat.zero_le _, rfl, rfl, g0, k0⟩
  case round =>
    clear g0 k0
    obtain ⟨k, hk, hgo, rfl, g0, hb⟩ := hrel
    generalize wr = w0 at *
    by_cases hlt : k < l.length
    rotate_left
    · obtain rfl : k = l.length := by omega
      have hkI : decide ((l.length : Int) < (l.length : Int)) = false := by simp
      clear hcs
      go_wp2_with fail
      go_ret2
      exact .inr ⟨by rw [hgb]; exact hgo, _, Nat.le_refl _, rfl, g0, hb⟩
    obtain ⟨x, hx⟩ : ∃ x, l[k]? = some x := ⟨_, List.getElem?_eq_getElem hlt⟩
    obtain ⟨b, off, rfl, c1, c2, c3⟩ := hcs k x hx
    have c1 := cell_keep c1 hb
    have c2 := cell_keep c2 hb
    have c3 := cell_keep c3 hb
    have hkI : (k : Int) < (l.length : Int) := by omega
    have hall := goodK_all n l k hgo
    have hlen := jK_length l k
    have hi := fun z => isEdge_c n x z
    have hgk : goodK n l (k + 1) = (edgeB n x && !dupK l x.1 x.2.1 k) := by rw [goodK, hgo, hx]; rfl
    have bad : goodK n l (k + 1) = false → graphB n l = false := fun h => by rw [hgb]; exact goodK_fall n l (k + 1) h _ (by omega)
    have e1 : At (w0.alloc (.cells #[.int .i64 x.1, .int .i64 x.2.1, .int .i64 x.2.2] 28)) w0.heap.size 28 (ev x) := At.new _ _ _
    have g1 : At (w0.alloc (.cells #[.int .i64 x.1, .int .i64 x.2.1, .int .i64 x.2.2] 28)) w.heap.size 103 (gc n (.slice (some ⟨b, off, none⟩) l.length c) (jK l k)) := g0.alloc _
    have k1 : Keeps w (w0.alloc (.cells #[.int .i64 x.1, .int .i64 x.2.1, .int .i64 x.2.2] 28)) := Keeps.alloc hb _
    have HB := Lib.hid bad
    have HG := Lib.hid hgb
    have HGK := Lib.hid hgk
    have HX := Lib.hid hx
    have HA := Lib.hid hall
    have HGO := Lib.hid hgo
    have hne : w.heap.size ≠ w0.heap.size := Nat.ne_of_lt g0.lt
    clear hcs bad hgb hgk hx hall hgo
    go_upto_region 7 with (fail)
    generalize (w0.alloc (.cells #[.int .i64 x.1, .int .i64 x.2.1, .int .i64 x.2.2] 28)) = w1 at *
    cases hE : edgeB n x
    · rw [hE] at hi HGK
      clear hE
      refine region_any_inv (G := Unit) (f := ?f) (fun _ => [.int .i64 n, .agg (ev x), .bool false, .bool true, .bool true, undef, undef, undef, undef, undef, undef, undef, undef, undef, undef, undef, .bool true])
        (fun _ L w' => Keeps w w' ∧ At w' w0.heap.size 28 (ev x) ∧ At w' w.heap.size 103 (gc n (.slice (some ⟨b, off, none⟩) l.length c) (jK l k))) () (fun _ => ?hf) (by kernel_rfl) (by kernel_rfl) ⟨keeps_dr k1, e1.drew, g1.drew⟩ ?steps ?fin
      case hf =>
        simp only [fill, List.toList_toArray, List.zip_cons_cons, List.zip_nil_left, List.zip_nil_right, List.foldl_cons, List.foldl_nil, Act.put, List.setIfInBounds_toArray, List.set_cons_succ, List.set_cons_zero]
        exact rfl
      case steps =>
        refine StepsU.cons rfl (fun g L w' hL hr hc hF => ?_) ?_
        · obtain ⟨k3, e3, g3⟩ := hF
          obtain ⟨p1, p2, p3⟩ := cells_ev e3
          refine StepU.go rfl (fun K hK => ?_)
          clear hi
          go_simp
          exact hK () _ ⟨k3, e3, g3⟩
        refine StepsU.cons rfl (fun g L w' hL hr hc hF => ?_) ?_
        · obtain ⟨k3, e3, g3⟩ := hF
          obtain ⟨p1, p2, p3⟩ := cells_ev e3
          refine StepU.go rfl (fun K hK => ?_)
          clear hi
          go_simp
          exact hK () _ ⟨k3, e3, g3⟩
        refine StepsU.cons rfl (fun g L w' hL hr hc hF => ?_) ?_
        · obtain ⟨k3, e3, g3⟩ := hF
          refine StepU.go rfl (fun K hK => ?_)
          go_simp
          refine (hi _).mono ?_
          rintro e w2 ⟨rfl, b2⟩
          exact hK () _ ⟨Keeps.next k3 b2, e3.later b2, g3.later b2⟩
        refine StepsU.cons rfl (fun g L w' hL hr hc hF => ?_) ?_
        · obtain ⟨k3, e3, g3⟩ := hF
          obtain ⟨p1, p2, p3⟩ := cells_ev e3
          refine StepU.go rfl (fun K hK => ?_)
          clear hi
          go_simp
          exact hK () _ ⟨k3, e3, g3⟩
        refine StepsU.cons rfl (fun g L w' hL hr hc hF => ?_) ?_
        · obtain ⟨k3, e3, g3⟩ := hF
          obtain ⟨p1, p2, p3⟩ := cells_ev e3
          refine StepU.go rfl (fun K hK => ?_)
          clear hi
          go_simp
          exact hK () _ ⟨k3, e3, g3⟩
        refine StepsU.cons rfl (fun g L w' hL hr hc hF => ?_) ?_
        · exact StepU.struck rfl ⟨(), rfl, hF⟩
        refine StepsU.cons rfl (fun g L w' hL hr hc hF => ?_) ?_
        · exact StepU.struck rfl ⟨(), rfl, hF⟩
        refine StepsU.cons rfl (fun g L w' hL hr hc hF => ?_) ?_
        · exact StepU.struck rfl ⟨(), rfl, hF⟩
        refine StepsU.cons rfl (fun g L w' hL hr hc hF => ?_) ?_
        · exact StepU.struck rfl ⟨(), rfl, hF⟩
        refine StepsU.cons rfl (fun g L w' hL hr hc hF => ?_) ?_
        · exact StepU.struck rfl ⟨(), rfl, hF⟩
        refine StepsU.cons rfl (fun g L w' hL hr hc hF => ?_) ?_
        · exact StepU.struck rfl ⟨(), rfl, hF⟩
        refine StepsU.cons rfl (fun g L w' hL hr hc hF => ?_) ?_
        · exact StepU.struck rfl ⟨(), rfl, hF⟩
        refine StepsU.cons rfl (fun g L w' hL hr hc hF => ?_) ?_
        · exact StepU.struck rfl ⟨(), rfl, hF⟩
        refine StepsU.cons rfl (fun g L w' hL hr hc hF => ?_) ?_
        · exact StepU.struck rfl ⟨(), rfl, hF⟩
        refine StepsU.cons rfl (fun g L w' hL hr hc hF => ?_) ?_
        · exact StepU.struck rfl ⟨(), rfl, hF⟩
        refine StepsU.cons rfl (fun g L w' hL hr hc hF => ?_) ?_
        · exact StepU.struck rfl ⟨(), rfl, hF⟩
        refine StepsU.cons rfl (fun g L w' hL hr hc hF => ?_) ?_
        · obtain ⟨k3, e3, g3⟩ := hF
          obtain ⟨p1, p2, p3⟩ := cells_ev e3
          refine StepU.go rfl (fun K hK => ?_)
          clear hi
          go_simp
          exact hK () _ ⟨k3, e3, g3⟩
        exact StepsU.nil (by simp)
      case fin =>
      intro g L w2 hall hF
      obtain ⟨k2, e2, g2⟩ := hF
      clear hall
      go_wp2_with fail
      go_ret2
      exact .inl ⟨HB.out (by rw [HGK.out]; rfl), rfl, k2⟩
    · obtain ⟨xa, xb, xc⟩ := x
      rw [hE] at hi HGK
      unfold edgeB at hE
      simp only [Bool.and_eq_true, decide_eq_true_eq] at hE
      obtain ⟨a, rfl⟩ := Int.eq_ofNat_of_zero_le hE.1
      obtain ⟨b', rfl⟩ := Int.eq_ofNat_of_zero_le (show 0 ≤ xb by omega)
      have ha12 : (a : Int) < 12 := by omega
      have hb12 : (b' : Int) < 12 := by omega
      have hJ : a * 12 + b' < (jK l k).length := by omega
      have HJ := Lib.hid (jK_at n l h2 k a b' HA.out (by omega) (by omega))
      have HE := Lib.hid hE
      clear hE
      generalize hjv : nth (jK l k) (a * 12 + b') = jv at *
      obtain ⟨jb, hjb⟩ : ∃ jb, decide (jv ≠ 0) = jb := ⟨_, rfl⟩
      have hjb' : (jv != 0) = jb := by rw [← hjb]; by_cases h : jv = 0 <;> simp [h]
      refine region_any_inv (G := Unit) (f := ?f2) (fun _ => [.int .i64 n, .agg (ev ((a : Int), (b' : Int), xc)), .bool true, .bool false, .bool false, .pointer (some ⟨w.heap.size, 0, none⟩), .pointer (some ⟨w0.heap.size, 0, none⟩), .int .i64 a, .pointer (some ⟨w0.heap.size, 1, none⟩), .int .i64 b', .pointer (some ⟨w.heap.size, 0, none⟩), .pointer (some ⟨w.heap.size, 2, none⟩), .pointer (some ⟨w.heap.size, 2 + a * 12, none⟩), .pointer (some ⟨w.heap.size, 2 + a * 12 + b', none⟩), .int .u64 jv, .bool jb, .bool jb])
        (fun _ L w' => Keeps w w' ∧ At w' w0.heap.size 28 (ev ((a : Int), (b' : Int), xc)) ∧ At w' w.heap.size 103 (gc n (.slice (some ⟨b, off, none⟩) l.length c) (jK l k))) () (fun _ => ?hf2) (by kernel_rfl) (by kernel_rfl) ⟨keeps_dr k1, e1.drew, g1.drew⟩ ?steps2 ?fin2
      case hf2 =>
        simp only [fill, List.toList_toArray, List.zip_cons_cons, List.zip_nil_left, List.zip_nil_right, List.foldl_cons, List.foldl_nil, Act.put, List.setIfInBounds_toArray, List.set_cons_succ, List.set_cons_zero]
        exact rfl
      case steps2 =>
        refine StepsU.cons rfl (fun g L w' hL hr hc hF => ?_) ?_
        · obtain ⟨k3, e3, g3⟩ := hF
          obtain ⟨p1, p2, p3⟩ := cells_ev e3
          refine StepU.go rfl (fun K hK => ?_)
          clear hi
          go_simp
          exact hK () _ ⟨k3, e3, g3⟩
        refine StepsU.cons rfl (fun g L w' hL hr hc hF => ?_) ?_
        · obtain ⟨k3, e3, g3⟩ := hF
          obtain ⟨p1, p2, p3⟩ := cells_ev e3
          refine StepU.go rfl (fun K hK => ?_)
          clear hi
          go_simp
          exact hK () _ ⟨k3, e3, g3⟩
        refine StepsU.cons rfl (fun g L w' hL hr hc hF => ?_) ?_
        · obtain ⟨k3, e3, g3⟩ := hF
          refine StepU.go rfl (fun K hK => ?_)
          go_simp
          refine (hi _).mono ?_
          rintro e w2 ⟨rfl, b2⟩
          exact hK () _ ⟨Keeps.next k3 b2, e3.later b2, g3.later b2⟩
        refine StepsU.cons rfl (fun g L w' hL hr hc hF => ?_) ?_
        · obtain ⟨k3, e3, g3⟩ := hF
          obtain ⟨p1, p2, p3⟩ := cells_ev e3
          refine StepU.go rfl (fun K hK => ?_)
          clear hi
          go_simp
          exact hK () _ ⟨k3, e3, g3⟩
        refine StepsU.cons rfl (fun g L w' hL hr hc hF => ?_) ?_
        · obtain ⟨k3, e3, g3⟩ := hF
          obtain ⟨p1, p2, p3⟩ := cells_ev e3
          refine StepU.go rfl (fun K hK => ?_)
          clear hi
          go_simp
          exact hK () _ ⟨k3, e3, g3⟩
        refine StepsU.cons rfl (fun g L w' hL hr hc hF => ?_) ?_
        · obtain ⟨k3, e3, g3⟩ := hF
          obtain ⟨p1, p2, p3⟩ := cells_ev e3
          refine StepU.go rfl (fun K hK => ?_)
          clear hi
          go_simp
          exact hK () _ ⟨k3, e3, g3⟩
        refine StepsU.cons rfl (fun g L w' hL hr hc hF => ?_) ?_
        · obtain ⟨k3, e3, g3⟩ := hF
          obtain ⟨p1, p2, p3⟩ := cells_ev e3
          refine StepU.go rfl (fun K hK => ?_)
          clear hi
          go_simp
          exact hK () _ ⟨k3, e3, g3⟩
        refine StepsU.cons rfl (fun g L w' hL hr hc hF => ?_) ?_
        · obtain ⟨k3, e3, g3⟩ := hF
          obtain ⟨p1, p2, p3⟩ := cells_ev e3
          refine StepU.go rfl (fun K hK => ?_)
          clear hi
          go_simp
          exact hK () _ ⟨k3, e3, g3⟩
        refine StepsU.cons rfl (fun g L w' hL hr hc hF => ?_) ?_
        · obtain ⟨k3, e3, g3⟩ := hF
          obtain ⟨p1, p2, p3⟩ := cells_ev e3
          refine StepU.go rfl (fun K hK => ?_)
          clear hi
          go_simp
          exact hK () _ ⟨k3, e3, g3⟩
        refine StepsU.cons rfl (fun g L w' hL hr hc hF => ?_) ?_
        · obtain ⟨k3, e3, g3⟩ := hF
          obtain ⟨p1, p2, p3⟩ := cells_ev e3
          refine StepU.go rfl (fun K hK => ?_)
          clear hi
          go_simp
          exact hK () _ ⟨k3, e3, g3⟩
        refine StepsU.cons rfl (fun g L w' hL hr hc hF => ?_) ?_
        · obtain ⟨k3, e3, g3⟩ := hF
          obtain ⟨p1, p2, p3⟩ := cells_ev e3
          refine StepU.go rfl (fun K hK => ?_)
          clear hi
          go_simp
          exact hK () _ ⟨k3, e3, g3⟩
        refine StepsU.cons rfl (fun g L w' hL hr hc hF => ?_) ?_
        · obtain ⟨k3, e3, g3⟩ := hF
          obtain ⟨p1, p2, p3⟩ := cells_ev e3
          refine StepU.go rfl (fun K hK => ?_)
          clear hi
          go_simp
          exact hK () _ ⟨k3, e3, g3⟩
        refine StepsU.cons rfl (fun g L w' hL hr hc hF => ?_) ?_
        · obtain ⟨k3, e3, g3⟩ := hF
          obtain ⟨p1, p2, p3⟩ := cells_ev e3
          refine StepU.go rfl (fun K hK => ?_)
          clear hi
          go_simp
          exact hK () _ ⟨k3, e3, g3⟩
        refine StepsU.cons rfl (fun g L w' hL hr hc hF => ?_) ?_
        · obtain ⟨k3, e3, g3⟩ := hF
          obtain ⟨p1, p2, p3⟩ := cells_ev e3
          refine StepU.go rfl (fun K hK => ?_)
          clear hi
          go_simp
          exact hK () _ ⟨k3, e3, g3⟩
        refine StepsU.cons rfl (fun g L w' hL hr hc hF => ?_) ?_
        · obtain ⟨k3, e3, g3⟩ := hF
          have p4 : w'.cell? ⟨w.heap.size, 2 + (a * 12 + b'), none⟩ = some (.int .u64 jv) := by rw [At.cell g3, ← hjv]; exact gc_at _ _ _ _ hJ
          rw [← Nat.add_assoc] at p4
          refine StepU.go rfl (fun K hK => ?_)
          clear hi
          go_simp
          exact hK () _ ⟨k3, e3, g3⟩
        refine StepsU.cons rfl (fun g L w' hL hr hc hF => ?_) ?_
        · obtain ⟨k3, e3, g3⟩ := hF
          obtain ⟨p1, p2, p3⟩ := cells_ev e3
          refine StepU.go rfl (fun K hK => ?_)
          clear hi
          go_simp
          exact hK () _ ⟨k3, e3, g3⟩
        refine StepsU.cons rfl (fun g L w' hL hr hc hF => ?_) ?_
        · obtain ⟨k3, e3, g3⟩ := hF
          obtain ⟨p1, p2, p3⟩ := cells_ev e3
          refine StepU.go rfl (fun K hK => ?_)
          clear hi
          go_simp
          exact hK () _ ⟨k3, e3, g3⟩
        exact StepsU.nil (by simp)
      case fin2 =>
      intro g L w2 hall hF
      obtain ⟨k2, e2, g2⟩ := hF
      clear hall
      clear e1 g1 k1 hi
      cases jb
      rotate_left
      · go_wp2_with fail
        go_ret2
        exact .inl ⟨HB.out (by rw [HGK.out, HJ.out.1 (by simpa using hjb)]; rfl), rfl, k2⟩
      · have hdup : dupK l a b' k = false := by cases h : dupK l a b' k with
          | false => rfl
          | true => exact absurd (HJ.out.2 h) (by simpa using hjb)
        rw [hdup] at HGK
        have HD := Lib.hid hdup
        have qs : IntKind.u64.wrap (2 ^ k) = ((2 ^ k : Nat) : Int) := by
          have h1 : (2 : Int) ^ k = ((2 ^ k : Nat) : Int) := by simp
          have h2 : 2 ^ k ≤ 2 ^ 40 := Nat.pow_le_pow_right (by decide) (by omega)
          have h3 : (2 : Nat) ^ 40 = 1099511627776 := by decide
          rw [h3] at h2
          rw [h1]
          generalize 2 ^ k = q at *
          exact IntWalk.u64_in _ (by omega)
        have qk : IntKind.i64.wrap ((k : Int) + 1) = (k : Int) + 1 := IntWalk.i64_in _ (by omega)
        clear hdup hjb hjb' hjv
        go_upto_region 9 with (fail)
        have HL : (jK l k).length = 144 := by simp [jK_length]
        refine region_any_inv (G := Unit) (f := ?f3) (fun _ => [.pointer (some ⟨w.heap.size, 0, none⟩), .pointer (some ⟨w0.heap.size, 0, none⟩), .int .i64 a, .pointer (some ⟨w0.heap.size, 1, none⟩), .int .i64 b', .int .i64 k, .int .u64 (2 ^ k : Nat), .pointer (some ⟨w.heap.size, 0, none⟩), .pointer (some ⟨w.heap.size, 2, none⟩), .pointer (some ⟨w.heap.size, 2 + a * 12, none⟩), .pointer (some ⟨w.heap.size, 2 + a * 12 + b', none⟩), undef])
          (fun _ L w' => Keeps w w' ∧ At w' w0.heap.size 28 (ev ((a : Int), (b' : Int), xc)) ∧ At w' w.heap.size 103 (if L 11 = true then gc n (.slice (some ⟨b, off, none⟩) l.length c) ((jK l k).set (a * 12 + b') (2 ^ k : Nat)) else gc n (.slice (some ⟨b, off, none⟩) l.length c) (jK l k))) () (fun _ => ?hf3) (by kernel_rfl) (by kernel_rfl) ⟨keeps_dr k2, e2.drew, g2.drew⟩ ?steps3 ?fin3
        case hf3 =>
          simp only [fill, List.toList_toArray, List.zip_cons_cons, List.zip_nil_left, List.zip_nil_right, List.foldl_cons, List.foldl_nil, Act.put, List.setIfInBounds_toArray, List.set_cons_succ, List.set_cons_zero]
          exact rfl
        case steps3 =>
          refine StepsU.cons rfl (fun g L w' hL hr hc hF => ?_) ?_
          · obtain ⟨k3, e3, g3⟩ := hF
            obtain ⟨p1, p2, p3⟩ := cells_ev e3
            refine StepU.go rfl (fun K hK => ?_)
            go_simp
            exact hK () _ ⟨k3, e3, g3⟩
          refine StepsU.cons rfl (fun g L w' hL hr hc hF => ?_) ?_
          · obtain ⟨k3, e3, g3⟩ := hF
            obtain ⟨p1, p2, p3⟩ := cells_ev e3
            refine StepU.go rfl (fun K hK => ?_)
            go_simp
            exact hK () _ ⟨k3, e3, g3⟩
          refine StepsU.cons rfl (fun g L w' hL hr hc hF => ?_) ?_
          · obtain ⟨k3, e3, g3⟩ := hF
            obtain ⟨p1, p2, p3⟩ := cells_ev e3
            refine StepU.go rfl (fun K hK => ?_)
            go_simp
            exact hK () _ ⟨k3, e3, g3⟩
          refine StepsU.cons rfl (fun g L w' hL hr hc hF => ?_) ?_
          · obtain ⟨k3, e3, g3⟩ := hF
            obtain ⟨p1, p2, p3⟩ := cells_ev e3
            refine StepU.go rfl (fun K hK => ?_)
            go_simp
            exact hK () _ ⟨k3, e3, g3⟩
          refine StepsU.cons rfl (fun g L w' hL hr hc hF => ?_) ?_
          · obtain ⟨k3, e3, g3⟩ := hF
            obtain ⟨p1, p2, p3⟩ := cells_ev e3
            refine StepU.go rfl (fun K hK => ?_)
            go_simp
            exact hK () _ ⟨k3, e3, g3⟩
          refine StepsU.cons rfl (fun g L w' hL hr hc hF => ?_) ?_
          · obtain ⟨k3, e3, g3⟩ := hF
            obtain ⟨p1, p2, p3⟩ := cells_ev e3
            refine StepU.go rfl (fun K hK => ?_)
            go_simp
            exact hK () _ ⟨k3, e3, g3⟩
          refine StepsU.cons rfl (fun g L w' hL hr hc hF => ?_) ?_
          · obtain ⟨k3, e3, g3⟩ := hF
            obtain ⟨p1, p2, p3⟩ := cells_ev e3
            refine StepU.go rfl (fun K hK => ?_)
            go_simp
            exact hK () _ ⟨k3, e3, g3⟩
          refine StepsU.cons rfl (fun g L w' hL hr hc hF => ?_) ?_
          · obtain ⟨k3, e3, g3⟩ := hF
            obtain ⟨p1, p2, p3⟩ := cells_ev e3
            refine StepU.go rfl (fun K hK => ?_)
            go_simp
            exact hK () _ ⟨k3, e3, g3⟩
          refine StepsU.cons rfl (fun g L w' hL hr hc hF => ?_) ?_
          · obtain ⟨k3, e3, g3⟩ := hF
            obtain ⟨p1, p2, p3⟩ := cells_ev e3
            refine StepU.go rfl (fun K hK => ?_)
            go_simp
            exact hK () _ ⟨k3, e3, g3⟩
          refine StepsU.cons rfl (fun g L w' hL hr hc hF => ?_) ?_
          · obtain ⟨k3, e3, g3⟩ := hF
            obtain ⟨p1, p2, p3⟩ := cells_ev e3
            refine StepU.go rfl (fun K hK => ?_)
            go_simp
            exact hK () _ ⟨k3, e3, g3⟩
          refine StepsU.cons rfl (fun g L w' hL hr hc hF => ?_) ?_
          · obtain ⟨k3, e3, g3⟩ := hF
            obtain ⟨p1, p2, p3⟩ := cells_ev e3
            refine StepU.go rfl (fun K hK => ?_)
            go_simp
            exact hK () _ ⟨k3, e3, g3⟩
          refine StepsU.cons rfl (fun g L w' hL hr hc hF => ?_) ?_
          · obtain ⟨k3, e3, g3⟩ := hF
            rw [hL, if_neg (by simp)] at g3
            have p4 : w'.cell? ⟨w.heap.size, 2 + a * 12 + b', none⟩ = some (.int .u64 (nth (jK l k) (a * 12 + b'))) := by rw [At.cell g3, Nat.add_assoc]; exact gc_at _ _ _ _ (by rw [HL]; omega)
            have p5 : w'.frozen? ⟨w.heap.size, 2 + a * 12 + b', none⟩ = false := At.frozen g3 _
            have p6 := At.set g3 (2 + a * 12 + b') (.int .u64 (2 ^ k : Nat))
            rw [Nat.add_assoc, gc_set] at p6
            refine StepU.go rfl (fun K hK => ?_)
            go_simp
            refine hK () _ ⟨Keeps.setp k3 _ (Nat.le_refl _) _ _, e3.far (Ne.symm hne) _, ?_⟩
            rw [if_pos (add_same L _), Nat.add_assoc]
            exact p6
          exact StepsU.nil (by simp)
        case fin3 =>
        intro g L w3 hall hF
        obtain ⟨k3, e3, g3⟩ := hF
        rw [hall 11 (by simp), if_pos rfl] at g3
        clear hall HL
        go_upto_region 10 with (fail)
        have HL : ((jK l k).set (a * 12 + b') (2 ^ k : Nat)).length = 144 := by simp [jK_length]
        refine region_any_inv (G := Unit) (f := ?f4) (fun _ => [.pointer (some ⟨w.heap.size, 0, none⟩), .pointer (some ⟨w0.heap.size, 1, none⟩), .int .i64 b', .pointer (some ⟨w0.heap.size, 0, none⟩), .int .i64 a, .int .i64 k, .int .u64 (2 ^ k : Nat), .pointer (some ⟨w.heap.size, 0, none⟩), .pointer (some ⟨w.heap.size, 2, none⟩), .pointer (some ⟨w.heap.size, 2 + b' * 12, none⟩), .pointer (some ⟨w.heap.size, 2 + b' * 12 + a, none⟩), undef])
          (fun _ L w' => Keeps w w' ∧ At w' w0.heap.size 28 (ev ((a : Int), (b' : Int), xc)) ∧ At w' w.heap.size 103 (if L 11 = true then gc n (.slice (some ⟨b, off, none⟩) l.length c) (((jK l k).set (a * 12 + b') (2 ^ k : Nat)).set (b' * 12 + a) (2 ^ k : Nat)) else gc n (.slice (some ⟨b, off, none⟩) l.length c) ((jK l k).set (a * 12 + b') (2 ^ k : Nat)))) () (fun _ => ?hf4) (by kernel_rfl) (by kernel_rfl) ⟨keeps_dr k3, e3.drew, g3.drew⟩ ?steps4 ?fin4
        case hf4 =>
          simp only [fill, List.toList_toArray, List.zip_cons_cons, List.zip_nil_left, List.zip_nil_right, List.foldl_cons, List.foldl_nil, Act.put, List.setIfInBounds_toArray, List.set_cons_succ, List.set_cons_zero]
          exact rfl
        case steps4 =>
          refine StepsU.cons rfl (fun g L w' hL hr hc hF => ?_) ?_
          · obtain ⟨k3, e3, g3⟩ := hF
            obtain ⟨p1, p2, p3⟩ := cells_ev e3
            refine StepU.go rfl (fun K hK => ?_)
            go_simp
            exact hK () _ ⟨k3, e3, g3⟩
          refine StepsU.cons rfl (fun g L w' hL hr hc hF => ?_) ?_
          · obtain ⟨k3, e3, g3⟩ := hF
            obtain ⟨p1, p2, p3⟩ := cells_ev e3
            refine StepU.go rfl (fun K hK => ?_)
            go_simp
            exact hK () _ ⟨k3, e3, g3⟩
          refine StepsU.cons rfl (fun g L w' hL hr hc hF => ?_) ?_
          · obtain ⟨k3, e3, g3⟩ := hF
            obtain ⟨p1, p2, p3⟩ := cells_ev e3
            refine StepU.go rfl (fun K hK => ?_)
            go_simp
            exact hK () _ ⟨k3, e3, g3⟩
          refine StepsU.cons rfl (fun g L w' hL hr hc hF => ?_) ?_
          · obtain ⟨k3, e3, g3⟩ := hF
            obtain ⟨p1, p2, p3⟩ := cells_ev e3
            refine StepU.go rfl (fun K hK => ?_)
            go_simp
            exact hK () _ ⟨k3, e3, g3⟩
          refine StepsU.cons rfl (fun g L w' hL hr hc hF => ?_) ?_
          · obtain ⟨k3, e3, g3⟩ := hF
            obtain ⟨p1, p2, p3⟩ := cells_ev e3
            refine StepU.go rfl (fun K hK => ?_)
            go_simp
            exact hK () _ ⟨k3, e3, g3⟩
          refine StepsU.cons rfl (fun g L w' hL hr hc hF => ?_) ?_
          · obtain ⟨k3, e3, g3⟩ := hF
            obtain ⟨p1, p2, p3⟩ := cells_ev e3
            refine StepU.go rfl (fun K hK => ?_)
            go_simp
            exact hK () _ ⟨k3, e3, g3⟩
          refine StepsU.cons rfl (fun g L w' hL hr hc hF => ?_) ?_
          · obtain ⟨k3, e3, g3⟩ := hF
            obtain ⟨p1, p2, p3⟩ := cells_ev e3
            refine StepU.go rfl (fun K hK => ?_)
            go_simp
            exact hK () _ ⟨k3, e3, g3⟩
          refine StepsU.cons rfl (fun g L w' hL hr hc hF => ?_) ?_
          · obtain ⟨k3, e3, g3⟩ := hF
            obtain ⟨p1, p2, p3⟩ := cells_ev e3
            refine StepU.go rfl (fun K hK => ?_)
            go_simp
            exact hK () _ ⟨k3, e3, g3⟩
          refine StepsU.cons rfl (fun g L w' hL hr hc hF => ?_) ?_
          · obtain ⟨k3, e3, g3⟩ := hF
            obtain ⟨p1, p2, p3⟩ := cells_ev e3
            refine StepU.go rfl (fun K hK => ?_)
            go_simp
            exact hK () _ ⟨k3, e3, g3⟩
          refine StepsU.cons rfl (fun g L w' hL hr hc hF => ?_) ?_
          · obtain ⟨k3, e3, g3⟩ := hF
            obtain ⟨p1, p2, p3⟩ := cells_ev e3
            refine StepU.go rfl (fun K hK => ?_)
            go_simp
            exact hK () _ ⟨k3, e3, g3⟩
          refine StepsU.cons rfl (fun g L w' hL hr hc hF => ?_) ?_
          · obtain ⟨k3, e3, g3⟩ := hF
            obtain ⟨p1, p2, p3⟩ := cells_ev e3
            refine StepU.go rfl (fun K hK => ?_)
            go_simp
            exact hK () _ ⟨k3, e3, g3⟩
          refine StepsU.cons rfl (fun g L w' hL hr hc hF => ?_) ?_
          · obtain ⟨k3, e3, g3⟩ := hF
            rw [hL, if_neg (by simp)] at g3
            have p4 : w'.cell? ⟨w.heap.size, 2 + b' * 12 + a, none⟩ = some (.int .u64 (nth ((jK l k).set (a * 12 + b') (2 ^ k : Nat)) (b' * 12 + a))) := by rw [At.cell g3, Nat.add_assoc]; exact gc_at _ _ _ _ (by rw [HL]; omega)
            have p5 : w'.frozen? ⟨w.heap.size, 2 + b' * 12 + a, none⟩ = false := At.frozen g3 _
            have p6 := At.set g3 (2 + b' * 12 + a) (.int .u64 (2 ^ k : Nat))
            rw [Nat.add_assoc, gc_set] at p6
            refine StepU.go rfl (fun K hK => ?_)
            go_simp
            refine hK () _ ⟨Keeps.setp k3 _ (Nat.le_refl _) _ _, e3.far (Ne.symm hne) _, ?_⟩
            rw [if_pos (add_same L _), Nat.add_assoc]
            exact p6
          exact StepsU.nil (by simp)
        case fin4 =>
        intro g L w4 hall hF
        obtain ⟨k4, e4, g4⟩ := hF
        rw [hall 11 (by simp), if_pos rfl] at g4
        clear hall HL
        rw [← jK_succ l k a b' xc HX.out] at g4
        go_wp2_with fail
        go_roundw
        case rel => exact ⟨k + 1, by omega, by rw [HGK.out]; rfl, by go_num, g4, k4⟩
        case measure => simp [intOf]; omega
end Go.Proofs.Ytngonghgkeobhaa
