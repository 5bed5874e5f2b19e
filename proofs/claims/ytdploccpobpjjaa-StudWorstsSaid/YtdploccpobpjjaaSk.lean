/- The walk of Clear. -/
import Derived.Test.YtdploccpobpjjaaSj
import Derived.Test.YtdploccpobpjjaaRn
namespace Go.Proofs.Ytdploccpobpjjaa
open Go.RowKit Go.Shelf
set_option linter.unusedVariables false
attribute [local go_sem] Oper.semAt_some

/-- Two pairs with the same step, the first one's first column before the second one's. -/
def cl2 (l : List Int) (p q : Nat × Nat) : Bool := decide (stp1 l p.1 p.2 = stp1 l q.1 q.2 ∧ stp2 l p.1 p.2 = stp2 l q.1 q.2) && decide (p.1 < q.1)
def clearF (l : List Int) : Option ((Nat × Nat) × (Nat × Nat)) := (prs l.length).findSome? fun p => ((prs l.length).find? (cl2 l p)).map fun q => (p, q)
def ia (a b c d : Nat) : Array Value := #[.int .i64 a, .int .i64 b, .int .i64 c, .int .i64 d]
theorem sizeF (a b c d : Nat) : (Try.prog.info? 27).map (·.size) = some (ia a b c d).size := by
  show _ = some 4; kernel_rfl
theorem sizePp (a b : Nat) : (Try.prog.info? 50).map (·.size) = some (#[Value.int .i64 a, .int .i64 b] : Array Value).size := by
  show _ = some 2; kernel_rfl
/-- Three results: an array and two numbers in cells. -/
theorem results_3 {P : Program} {fn : Func} {p u v : Tmp} {t1 t2 t3 : TypeId} (hr : fn.results = #[.cell p t1, .cell u t2, .cell v t3]) (tmps : Array Value) (w : World) (g1 g2 g3 : Nat) (s1 : TypeId) (cs : Array Value) (d : TypeDesc) (x y : Value)
    (hp : tmps.getD p undef = .pointer (some ⟨g1, 0, none⟩)) (hu : tmps.getD u undef = .pointer (some ⟨g2, 0, none⟩)) (hv : tmps.getD v undef = .pointer (some ⟨g3, 0, none⟩))
    (hg : At w g1 s1 cs) (hd : P.underlying t1 = some d) (hdd : (match d with | .struct _ | .array _ _ => true | _ => false) = true) (hi : (P.info? t1).map (·.size) = some cs.size)
    (h2 : w.cell? ⟨g2, 0, none⟩ = some x) (h3 : w.cell? ⟨g3, 0, none⟩ = some y) (a2 : (isAgg t2).run P w = .ok false w) (a3 : (isAgg t3).run P w = .ok false w) : (results fn tmps).run P w = .ok (.tuple #[.agg cs, x, y]) w := by
  have hp' : tmps[p]?.getD undef = .pointer (some ⟨g1, 0, none⟩) := by simpa using hp
  have hu' : tmps[u]?.getD undef = .pointer (some ⟨g2, 0, none⟩) := by simpa using hu
  have hv' : tmps[v]?.getD undef = .pointer (some ⟨g3, 0, none⟩) := by simpa using hv
  have e1 : (loadVar t1 ⟨g1, 0, none⟩).run P w = .ok (.agg cs) w := run_loadVar_row w g1 s1 t1 cs (0, 0) d hg hd hdd hi
  have e2 : (loadVar t2 ⟨g2, 0, none⟩).run P w = .ok x w := by simp [loadVar, Sem.run_bind, a2, load, Sem.run, h2, Result.andThen]
  have e3 : (loadVar t3 ⟨g3, 0, none⟩).run P w = .ok y w := by simp [loadVar, Sem.run_bind, a3, load, Sem.run, h3, Result.andThen]
  simp [results, hr, hp', hu', hv', asAddr, Sem.run_bind, e1, e2, e3, Result.andThen]

set_option maxHeartbeats 4000000 in
set_option maxRecDepth 100000 in
theorem clear_no (A : Option Addr) (c : Nat) (l : List Int) (ho : ordB l = false) (w : World) (hv : RdI w (.slice A l.length c) l) :
    Calls Try.prog 8 #[.slice A l.length c] w fun e w' => e = .returned (.tuple #[.agg (ia 0 0 0 0), .bool false, .int .i64 2]) ∧ Keeps w w' := by
  have hor := fun x hx => isOrder_c (.slice A l.length c) l x hx
  rw [ho] at hor
  clear ho
  refine (callsIn_wide (n := 5)).1 ?_
  refine callsIn_of_wp_marks Try.func8 rfl trivial ?_ rfl
  simp only [Try.ntmps8, List.size_toArray, List.length_cons, List.length_nil, Nat.reduceAdd, Nat.reduceSub, Array.replicate_succ, Array.replicate_zero, List.push_toArray, List.append_toArray, List.nil_append, List.cons_append]
  gi_wp2_with fail
  refine ⟨trivial, (callsIn_wide.2 (hor _ (hv.below (Keeps.alloc (Keeps.alloc (Keeps.alloc (Keeps.alloc (Below.refl _ _) _) _) _) _)))).mono ?_⟩
  rintro e w1 ⟨rfl, hb1⟩
  have h1 : At w1 (w.heap.size + 1) 27 (ia 0 0 0 0) := (((At.new2 w _ _ _).alloc _).alloc _).later hb1
  have h2 : At w1 (w.heap.size + 1 + 1) 4 #[.bool false] := ((At.new' _ _ (by simp) _ _).alloc _).later hb1
  have h3 : At w1 (w.heap.size + 1 + 1 + 1) 24 #[.int .i64 0] := (At.new' _ _ (by simp) _ _).later hb1
  have hk1 : Keeps w w1 := Keeps.next (Keeps.alloc (Keeps.alloc (Keeps.alloc (Keeps.alloc (Below.refl _ _) _) _) _) _) hb1
  gi_wp2_with (
    refine in_store_row rfl 27 _ _ rfl (w.heap.size + 1) (ia 0 0 0 0) rfl rfl 27 (ia 0 0 0 0) h1 (sizeF _ _ _ _) rfl (by simp [ia, Value.oneCell']) ?_
    have h12 := h1.row (ia 0 0 0 0)
    have h22 := h2.rowfar (g' := w.heap.size + 1) (by omega) (ia 0 0 0 0)
    have h32 := h3.rowfar (g' := w.heap.size + 1) (by omega) (ia 0 0 0 0)
    have hk2 : Keeps w (w1.setRow (w.heap.size + 1) (ia 0 0 0 0)) := below_row hk1 (by omega) _
    generalize w1.setRow (w.heap.size + 1) (ia 0 0 0 0) = X at *
    have f2 := h22.frozen 0
    have f3 := h32.frozen 0
    have c2 := h22.cell 0
    have c3 := h32.cell 0
    simp only [List.getElem?_toArray, List.getElem?_cons_zero] at c2 c3)
  have e1 := (h12.far (p := ⟨w.heap.size + 1 + 1, 0, none⟩) (by simp) (.bool false)).far (p := ⟨w.heap.size + 1 + 1 + 1, 0, none⟩) (by simp) (.int .i64 2)
  have e2 := ((h22.set 0 (.bool false)).far (p := ⟨w.heap.size + 1 + 1 + 1, 0, none⟩) (by simp) (.int .i64 2)).cell 0
  have e3 := ((h32.far (p := ⟨w.heap.size + 1 + 1, 0, none⟩) (by simp) (.bool false)).set 0 (.int .i64 2)).cell 0
  exact ⟨_, results_3 Try.results8 _ _ (w.heap.size + 1) (w.heap.size + 1 + 1) (w.heap.size + 1 + 1 + 1) _ _ _ _ _ rfl rfl rfl e1 Try.underlying27 rfl (sizeF _ _ _ _) e2 e3 (Try.isAgg4 _) (Try.isAgg24 _), rfl, (hk2.setCell (by simp; omega) _).setCell (by simp; omega) _⟩

/-- Some pair with the same step, none of the first k. -/
theorem find_no {α : Type} {f : α → Bool} {xs : List α} (h : ∀ i x, i < xs.length → xs[i]? = some x → f x = false) : xs.find? f = none := by
  rw [List.find?_eq_none]
  intro x hx
  obtain ⟨i, hi, rfl⟩ := List.getElem_of_mem hx
  simp [h i _ hi (List.getElem?_eq_getElem hi)]
theorem find_yes {α : Type} {f : α → Bool} {xs : List α} {k : Nat} {x : α} (hk : xs[k]? = some x) (hx : f x = true) (h : ∀ i y, i < k → xs[i]? = some y → f y = false) : xs.find? f = some x := by
  obtain ⟨hkl, rfl⟩ := List.getElem?_eq_some_iff.1 hk
  rw [List.find?_eq_some_iff_append]
  refine ⟨hx, xs.take k, xs.drop (k + 1), ?_, fun a ha => ?_⟩
  · rw [← List.drop_eq_getElem_cons hkl, List.take_append_drop]
  · obtain ⟨i, hi, rfl⟩ := List.getElem_of_mem ha
    have hi' : i < k := by simp at hi; omega
    have := h i (xs.take k)[i] hi' (by rw [List.getElem_take]; exact List.getElem?_eq_getElem (by omega))
    simpa using this
theorem clearF_none {l : List Int} (h : ∀ i p, i < (prs l.length).length → (prs l.length)[i]? = some p → (prs l.length).find? (cl2 l p) = none) : clearF l = none := by
  rw [clearF, List.findSome?_eq_none_iff]
  intro p hp
  obtain ⟨i, hi, rfl⟩ := List.getElem_of_mem hp
  rw [h i _ hi (List.getElem?_eq_getElem hi)]; rfl
theorem clearF_some {l : List Int} {k : Nat} {p q : Nat × Nat} (hk : (prs l.length)[k]? = some p) (hq : (prs l.length).find? (cl2 l p) = some q) (h : ∀ i p, i < k → (prs l.length)[i]? = some p → (prs l.length).find? (cl2 l p) = none) : clearF l = some (p, q) := by
  obtain ⟨hkl, rfl⟩ := List.getElem?_eq_some_iff.1 hk
  rw [clearF, List.findSome?_eq_some_iff]
  refine ⟨(prs l.length).take k, _, (prs l.length).drop (k + 1), ?_, by rw [hq]; rfl, fun a ha => ?_⟩
  · rw [← List.drop_eq_getElem_cons hkl, List.take_append_drop]
  · obtain ⟨i, hi, rfl⟩ := List.getElem_of_mem ha
    have hi' : i < k := by simp at hi; omega
    rw [h i ((prs l.length).take k)[i] hi' (by rw [List.getElem_take]; exact List.getElem?_eq_getElem (by omega))]; rfl
def clearT (l : List Int) : Nat × Nat × Nat × Nat := match clearF l with | some (p, q) => (p.1, p.2, q.1, q.2) | none => (0, 0, 0, 0)
theorem Holds.below2 {w Z V : World} (h : Holds (fun r => r < w.heap.size) Z V) (k : Keeps w Z) : Keeps w V := ((Holds.of_below k).trans2 h (fun r _ h => h)).below (Nat.le_refl _)
/-- What lies in Clear's own cells. -/
structure CSt (w Z : World) (A : Option Addr) (c n : Nat) (x : Array Value) (b : Bool) : Prop where
  h0 : At Z w.heap.size 22 #[.slice A n c]
  h1 : At Z (w.heap.size + 1) 27 x
  h2 : At Z (w.heap.size + 1 + 1) 4 #[.bool b]
  h3 : At Z (w.heap.size + 1 + 1 + 1) 24 #[.int .i64 0]
  hk : Keeps w Z
theorem CSt.holds {w Z Z' : World} {A : Option Addr} {c n : Nat} {x : Array Value} {b : Bool} {K : Nat → Prop} (h : CSt w Z A c n x b) (hh : Holds K Z Z') (hK : ∀ r, r < w.heap.size + 4 → K r) : CSt w Z' A c n x b :=
  ⟨h.h0.holds hh (hK _ (by omega)), h.h1.holds hh (hK _ (by omega)), h.h2.holds hh (hK _ (by omega)), h.h3.holds hh (hK _ (by omega)), ((Holds.of_below h.hk).trans2 hh (fun r _ h => hK r (by omega))).below (Nat.le_refl _)⟩
set_option maxHeartbeats 4000000 in
set_option maxRecDepth 100000 in
theorem clear_yes (A : Option Addr) (c : Nat) (l : List Int) (ho : ordB l = true) (w : World) (hv : RdI w (.slice A l.length c) l) :
    Calls Try.prog 8 #[.slice A l.length c] w fun e w' => e = .returned (.tuple #[.agg (ia (clearT l).1 (clearT l).2.1 (clearT l).2.2.1 (clearT l).2.2.2), .bool (clearF l).isNone, .int .i64 0]) ∧ Keeps w w' := by
  have hor := fun x hx => isOrder_c (.slice A l.length c) l x hx
  obtain ⟨ho1, ho2, ho3, ho4⟩ := ordB_parts l ho
  have hlow := low_all l l.length (by omega) ho3
  rw [ho] at hor
  have Ho4 := Lib.hid ho4
  have Ho3 := Lib.hid ho3
  clear ho ho4 ho3
  refine (callsIn_wide (n := 5)).1 ?_
  refine callsIn_of_wp_marks Try.func8 rfl trivial ?_ rfl
  simp only [Try.ntmps8, List.size_toArray, List.length_cons, List.length_nil, Nat.reduceAdd, Nat.reduceSub, Array.replicate_succ, Array.replicate_zero, List.push_toArray, List.append_toArray, List.nil_append, List.cons_append]
  gi_wp2_with fail
  refine ⟨trivial, (callsIn_wide.2 (hor _ (hv.below (Keeps.alloc (Keeps.alloc (Keeps.alloc (Keeps.alloc (Below.refl _ _) _) _) _) _)))).mono ?_⟩
  rintro e w1 ⟨rfl, hb1⟩
  have hC1 : CSt w w1 A c l.length (ia 0 0 0 0) false := ⟨((((At.new w _ _).alloc _).alloc _).alloc _).later hb1, (((At.new2 w _ _ _).alloc _).alloc _).later hb1, ((At.new' _ _ (by simp) _ _).alloc _).later hb1, (At.new' _ _ (by simp) _ _).later hb1, Keeps.next (Keeps.alloc (Keeps.alloc (Keeps.alloc (Keeps.alloc (Below.refl _ _) _) _) _) _) hb1⟩
  have cb := hC1.h0.cell 0
  simp only [List.getElem?_toArray, List.getElem?_cons_zero] at cb
  have hw1 := hC1.h3.lt
  gi_wp2_with fail
  refine ⟨trivial, (callsIn_wide.2 (steps_c A l.length c _)).mono ?_⟩
  rintro e w2 ⟨rfl, rfl⟩
  gi_wp2_with fail
  clear cb
  obtain ⟨Y, hY⟩ : ∃ Y, w1.alloc (.cells #[.slice A l.length c] 22) = Y := ⟨_, rfl⟩
  have hYs : Y.heap.size = w1.heap.size + 1 := by rw [← hY]; simp
  have hCY : CSt w Y A c l.length (ia 0 0 0 0) false := by rw [← hY]; exact hC1.holds ((Holds.refl (fun _ => True) _).alloc _) (fun _ _ => trivial)
  have hbY : At Y w1.heap.size 22 #[.slice A l.length c] := by rw [← hY]; exact At.new _ _ _
  rw [hY]
  clear hY
  have hvK : ∀ (Z X' : World), Keeps w Z → Holds (fun r => r < w.heap.size) Z X' → RdI X' (.slice A l.length c) l := fun Z X' hz hh => hv.below (((Holds.of_below hz).trans2 hh (fun r _ h => h)).below (Nat.le_refl _))
  refine range_out (prs l.length) (gf := 33) (lb := #[.pointer (some ⟨w1.heap.size, 0, none⟩)]) rfl (enters_of Try.func33 (by kernel_rfl) rfl)
    (steps_iter A c l hlow w1.heap.size (fun r => r < w.heap.size ∨ r = w1.heap.size) (.inr rfl) Y (fun r h => by omega) hbY (fun X' hh => hvK Y X' hCY.hk (hh.mono (fun r _ h => .inl h))))
    (fun _ _ => rfl) (fun r h => by omega) (fun _ _ _ _ _ _ => trivial)
    (fun k _ Z => (∀ i p, i < k → (prs l.length)[i]? = some p → (prs l.length).find? (cl2 l p) = none) ∧ CSt w Z A c l.length (ia 0 0 0 0) false)
    (fun k _ Z => ∃ p q, clearF l = some (p, q) ∧ CSt w Z A c l.length (ia p.1 p.2 q.1 q.2) false)
    (fun k M Z Z' h hh => ⟨h.1, h.2.holds hh (fun r h => .inl (by omega))⟩)
    (fun k M Z Z' ⟨p, q, h, h'⟩ hh => ⟨p, q, h, h'.holds hh (fun r h => .inl (by omega))⟩)
    ⟨fun i p h => by omega, hCY⟩
    (fun x a' Z => ∃ b5 b6, Y.heap.size + 2 ≤ b5 ∧ Y.heap.size + 2 ≤ b6 ∧ At Z b5 50 #[.int .i64 x.1, .int .i64 x.2] ∧ At Z b6 52 (ic [stp1 l x.1 x.2, stp2 l x.1 x.2]) ∧ a' = { tmps := #[.slice A l.length c, .pointer (some ⟨w.heap.size, 0, none⟩), .pointer (some ⟨w.heap.size + 1, 0, none⟩), .pointer (some ⟨w.heap.size + 1 + 1, 0, none⟩), .pointer (some ⟨w.heap.size + 1 + 1 + 1, 0, none⟩), .pointer (some ⟨b5, 0, none⟩), .pointer (some ⟨b6, 0, none⟩), undef, undef, .slice A l.length c, .bool true, .bool false, undef, .slice A l.length c, .func (.func 33) #[] #[.pointer (some ⟨w1.heap.size, 0, none⟩)],
      .agg #[.int .i64 x.1, .int .i64 x.2], .agg #[.int .i64 (stp1 l x.1 x.2), .int .i64 (stp2 l x.1 x.2)], undef, undef, undef, undef, undef, undef, undef, undef, undef, undef, undef, undef, undef, undef, undef, undef, undef, undef, undef, undef, undef, undef, undef, undef], defers := [] })
    (fun x a Z Z' hh ⟨b5, b6, g5, g6, h5, h6, h7⟩ => ⟨b5, b6, g5, g6, h5.holds hh (by omega), h6.holds hh (by omega), h7⟩) ?assign ?body ?done ?stop
  case assign =>
    intro l' j x M1 Z hx _ _ hsz
    simp only [encS]
    have HYs := Lib.hid hYs
    have Hx := Lib.hid hx
    clear hYs hx
    gi_wp2_with (first
      | (refine in_store_row rfl 50 _ _ rfl Z.heap.size #[.int .i64 x.1, .int .i64 x.2] rfl rfl 50 #[.int .i64 0, .int .i64 0] (At.new Z 50 _) (sizePp _ _) rfl (by simp [Value.oneCell']) ?_
         have h5 := (At.new Z 50 #[.int .i64 0, .int .i64 0]).row #[.int .i64 x.1, .int .i64 x.2]
         have hh5 : Holds (fun r => r < Z.heap.size) Z ((Z.alloc (.cells #[.int .i64 0, .int .i64 0] 50)).setRow Z.heap.size #[.int .i64 x.1, .int .i64 x.2]) := Holds.row ((Holds.refl _ Z).alloc _) _ (by simp) _
         have hs5 : ((Z.alloc (.cells #[.int .i64 0, .int .i64 0] 50)).setRow Z.heap.size #[.int .i64 x.1, .int .i64 x.2]).heap.size = Z.heap.size + 1 := by simp [World.setRow]
         generalize (Z.alloc (.cells #[.int .i64 0, .int .i64 0] 50)).setRow Z.heap.size #[.int .i64 x.1, .int .i64 x.2] = X5 at *
         have Hs5 := Lib.hid hs5
         clear hs5)
      | (refine in_store_row rfl 52 _ _ rfl X5.heap.size (ic [stp1 l x.1 x.2, stp2 l x.1 x.2]) rfl rfl 52 (ic [0, 0]) (At.new X5 52 _) (sizeSt _ _) rfl (ic_one _) ?_))
    have hs5 := Hs5.out
    exact ⟨Holds.mono (Holds.row (K := fun r => r < Z.heap.size) (hh5.alloc _) _ (by omega) _) (fun r hr _ => hr), Z.heap.size, X5.heap.size, hsz, by omega, (h5.alloc _).rowfar (by omega) _, (At.new X5 52 (ic [0, 0])).row _, rfl⟩
  case body =>
    rintro l' j x M1 a' Z hx ⟨hno, hC⟩ hM1 hKin _ ⟨b5, b6, g5, g6, h5, h6, rfl⟩ hsz rfl ⟨r0, hr0⟩
    have hYw : w1.heap.size < Y.heap.size := by omega
    have HYs := Lib.hid hYs
    have Hx := Lib.hid hx
    have Hno := Lib.hid hno
    have cb := hC.h0.cell 0
    simp only [List.getElem?_toArray, List.getElem?_cons_zero] at cb
    clear hYs hx hno
    gi_wp2_with fail
    refine ⟨trivial, ((callsIn_wide.2 (steps_c A l.length c _)).inRound _).mono ?_⟩
    rintro e w2 ⟨rfl, rfl⟩
    gi_wp2_with fail
    have hzY := hC.hk.size
    have h5lt := h5.lt
    have h6lt := h6.lt
    obtain ⟨V, hV⟩ : ∃ V, Z.alloc (.cells #[.slice A l.length c] 22) = V := ⟨_, rfl⟩
    have hVs : V.heap.size = Z.heap.size + 1 := by rw [← hV]; simp
    have hZV : Holds (fun _ => True) Z V := by rw [← hV]; exact (Holds.refl _ _).alloc _
    have hbV : At V Z.heap.size 22 #[.slice A l.length c] := by rw [← hV]; exact At.new _ _ _
    have hrV : V.heap[Y.heap.size + 1]? = some (.loop r0) := by rw [← hV]; exact (Below.heap_alloc Z _ _ (by omega)).trans hr0
    rw [hV]
    clear hV
    refine range_in (prs l.length) hrV (gf := 33) (lb := #[.pointer (some ⟨Z.heap.size, 0, none⟩)]) rfl (enters_of Try.func33 (by kernel_rfl) rfl)
      (steps_iter A c l hlow Z.heap.size (fun r => r < w.heap.size ∨ r = Z.heap.size) (.inr rfl) V (fun r h => by omega) hbV (fun X' hh => hvK V X' ((hZV.mono (fun _ _ _ => trivial) : Holds (fun r => r < w.heap.size) Z V).below2 hC.hk) (hh.mono (fun r _ h => .inl h))))
      (fun _ _ => rfl) (fun r h => by omega) (fun _ _ _ _ _ _ => trivial)
      (fun k _ Z' => (∀ i q, i < k → (prs l.length)[i]? = some q → cl2 l x q = false) ∧ CSt w Z' A c l.length (ia 0 0 0 0) false ∧ At Z' b5 50 #[.int .i64 x.1, .int .i64 x.2] ∧ At Z' b6 52 (ic [stp1 l x.1 x.2, stp2 l x.1 x.2]) ∧ Holds (fun r => r < Z.heap.size) Z Z')
      (fun k _ Z' => ∃ q, (prs l.length).find? (cl2 l x) = some q ∧ CSt w Z' A c l.length (ia x.1 x.2 q.1 q.2) false ∧ Holds (fun r => r < w.heap.size ∨ (w.heap.size + 4 ≤ r ∧ r < Z.heap.size)) Z Z')
      (fun k M Z1 Z2 h hh => ⟨h.1, h.2.1.holds hh (fun r h => .inl (by omega)), h.2.2.1.holds hh (.inl (by omega)), h.2.2.2.1.holds hh (.inl (by omega)), h.2.2.2.2.trans2 hh (fun r _ h => .inl (by omega))⟩)
      (fun k M Z1 Z2 ⟨q, h1, h2, h3⟩ hh => ⟨q, h1, h2.holds hh (fun r h => .inl (by omega)), h3.trans2 hh (fun r _ h => .inl (by omega))⟩)
      ⟨fun i q h => by omega, hC.holds hZV (fun _ _ => trivial), h5.holds hZV trivial, h6.holds hZV trivial, hZV.mono (fun _ _ _ => trivial)⟩
      (fun y a' Z' => ∃ b7 b8, V.heap.size + 1 ≤ b7 ∧ V.heap.size + 1 ≤ b8 ∧ At Z' b7 50 #[.int .i64 y.1, .int .i64 y.2] ∧ At Z' b8 52 (ic [stp1 l y.1 y.2, stp2 l y.1 y.2]) ∧ a' = { tmps := #[.slice A l.length c, .pointer (some ⟨w.heap.size, 0, none⟩), .pointer (some ⟨w.heap.size + 1, 0, none⟩), .pointer (some ⟨w.heap.size + 1 + 1, 0, none⟩), .pointer (some ⟨w.heap.size + 1 + 1 + 1, 0, none⟩), .pointer (some ⟨b5, 0, none⟩), .pointer (some ⟨b6, 0, none⟩), .pointer (some ⟨b7, 0, none⟩), .pointer (some ⟨b8, 0, none⟩), .slice A l.length c, .bool true, .bool false, undef, .slice A l.length c, .func (.func 33) #[] #[.pointer (some ⟨w1.heap.size, 0, none⟩)],
        .agg #[.int .i64 x.1, .int .i64 x.2], .agg #[.int .i64 (stp1 l x.1 x.2), .int .i64 (stp2 l x.1 x.2)], .slice A l.length c, .func (.func 33) #[] #[.pointer (some ⟨Z.heap.size, 0, none⟩)], .agg #[.int .i64 y.1, .int .i64 y.2], .agg #[.int .i64 (stp1 l y.1 y.2), .int .i64 (stp2 l y.1 y.2)], undef, undef, undef, undef, undef, undef, undef, undef, undef, undef, undef, undef, undef, undef, undef, undef, undef, undef, undef, undef], defers := [] })
      (fun y a Z1 Z2 hh ⟨b7, b8, g7, g8, h7, h8, h9⟩ => ⟨b7, b8, g7, g8, h7.holds hh (by omega), h8.holds hh (by omega), h9⟩) ?assign2 ?body2 ?done2 ?stop2
    case assign2 =>
      intro l2 j2 y M2 Z2 hy _ _ hsz2
      simp only [encS]
      have HVs := Lib.hid hVs
      have Hy := Lib.hid hy
      clear hVs hy
      gi_wp2_with (first
        | (refine in_store_row rfl 50 _ _ rfl Z2.heap.size #[.int .i64 y.1, .int .i64 y.2] rfl rfl 50 #[.int .i64 0, .int .i64 0] (At.new Z2 50 _) (sizePp _ _) rfl (by simp [Value.oneCell']) ?_
           have h7 := (At.new Z2 50 #[.int .i64 0, .int .i64 0]).row #[.int .i64 y.1, .int .i64 y.2]
           have hh7 : Holds (fun r => r < Z2.heap.size) Z2 ((Z2.alloc (.cells #[.int .i64 0, .int .i64 0] 50)).setRow Z2.heap.size #[.int .i64 y.1, .int .i64 y.2]) := Holds.row ((Holds.refl _ Z2).alloc _) _ (by simp) _
           have hs7 : ((Z2.alloc (.cells #[.int .i64 0, .int .i64 0] 50)).setRow Z2.heap.size #[.int .i64 y.1, .int .i64 y.2]).heap.size = Z2.heap.size + 1 := by simp [World.setRow]
           generalize (Z2.alloc (.cells #[.int .i64 0, .int .i64 0] 50)).setRow Z2.heap.size #[.int .i64 y.1, .int .i64 y.2] = X7 at *
           have Hs7 := Lib.hid hs7
           clear hs7)
        | (refine in_store_row rfl 52 _ _ rfl X7.heap.size (ic [stp1 l y.1 y.2, stp2 l y.1 y.2]) rfl rfl 52 (ic [0, 0]) (At.new X7 52 _) (sizeSt _ _) rfl (ic_one _) ?_))
      have hs7 := Hs7.out
      exact ⟨Holds.mono (Holds.row (K := fun r => r < Z2.heap.size) (hh7.alloc _) _ (by omega) _) (fun r hr _ => hr), Z2.heap.size, X7.heap.size, hsz2, by omega, (h7.alloc _).rowfar (by omega) _, (At.new X7 52 (ic [0, 0])).row _, rfl⟩
    case body2 =>
      rintro l2 j2 y M2 a2 Z2 hy ⟨hno2, hC2, h52, h62, hh2⟩ hM2 hKin2 _ ⟨b7, b8, g7, g8, h7, h8, rfl⟩ hsz2
      have Hy := Lib.hid hy
      have Hno2 := Lib.hid hno2
      have HVs := Lib.hid hVs
      clear hy hno2 hVs
      have c50 := h52.cell 0
      have c70 := h7.cell 0
      simp only [List.getElem?_toArray, List.getElem?_cons_zero] at c50 c70
      have e1 : cl2 l x y = (decide (stp1 l x.1 x.2 = stp1 l y.1 y.2 ∧ stp2 l x.1 x.2 = stp2 l y.1 y.2) && decide (x.1 < y.1)) := rfl
      have He1 := Lib.hid e1
      clear e1
      have hgo : cl2 l x y = false → Holds (fun _ => True) Z2 Z2 ∧ (∀ i q, i < j2 + 1 → (prs l.length)[i]? = some q → cl2 l x q = false) := fun h => ⟨Holds.refl _ _, fun i q hi hq => by
        by_cases h' : i < j2
        · exact Hno2.out i q h' hq
        · obtain rfl : i = j2 := by omega
          rw [Hy.out] at hq; cases hq; exact h⟩
      have Hgo := Lib.hid hgo
      clear hgo
      by_cases e1 : stp1 l x.1 x.2 = stp1 l y.1 y.2
      · by_cases e2 : stp2 l x.1 x.2 = stp2 l y.1 y.2
        · have q1 : (stp1 l x.1 x.2 == stp1 l y.1 y.2) = true := by simp [e1]
          have q2 : (stp2 l x.1 x.2 == stp2 l y.1 y.2) = true := by simp [e2]
          by_cases e3 : x.1 < y.1
          · have Hcl := Lib.hid (show cl2 l x y = true by rw [He1.out]; simp [e1, e2, e3])
            have q3 : (x.1 : Int) < y.1 := by omega
            have c51 := h52.cell 1
            have c71 := h7.cell 1
            simp only [List.getElem?_toArray, List.getElem?_cons_zero, List.getElem?_cons_succ] at c51 c71
            clear e1 e2
            gi_wp2_with (first
              | refine in_load_row rfl 52 _ rfl b6 rfl 52 #[.int .i64 (stp1 l x.1 x.2), .int .i64 (stp2 l x.1 x.2)] _ h62 Try.underlying52 rfl (sizeSt _ _) ?_
              | refine in_load_row rfl 52 _ rfl b8 rfl 52 #[.int .i64 (stp1 l y.1 y.2), .int .i64 (stp2 l y.1 y.2)] _ h8 Try.underlying52 rfl (sizeSt _ _) ?_
              | (refine in_store_row rfl 27 _ _ rfl (w.heap.size + 1) (ia x.1 x.2 y.1 y.2) rfl rfl 27 (ia 0 0 0 0) hC2.h1 (sizeF _ _ _ _) rfl (by simp [ia, Value.oneCell']) ?_
                 have z0 := hC2.h0.rowfar (g' := w.heap.size + 1) (by omega) (ia x.1 x.2 y.1 y.2)
                 have z1 := hC2.h1.row (ia x.1 x.2 y.1 y.2)
                 have z2 := hC2.h2.rowfar (g' := w.heap.size + 1) (by omega) (ia x.1 x.2 y.1 y.2)
                 have z3 := hC2.h3.rowfar (g' := w.heap.size + 1) (by omega) (ia x.1 x.2 y.1 y.2)
                 have zk : Keeps w (Z2.setRow (w.heap.size + 1) (ia x.1 x.2 y.1 y.2)) := below_row hC2.hk (by omega) _
                 have zh : Holds (fun r => r ≠ w.heap.size + 1) Z2 (Z2.setRow (w.heap.size + 1) (ia x.1 x.2 y.1 y.2)) := Holds.row (Holds.refl _ _) _ (by simp) _
                 generalize Z2.setRow (w.heap.size + 1) (ia x.1 x.2 y.1 y.2) = X at *
                 have f2 := z2.frozen 0
                 have f3 := z3.frozen 0
                 have c2 := z2.cell 0
                 have c3 := z3.cell 0
                 simp only [List.getElem?_toArray, List.getElem?_cons_zero] at c2 c3))
            have zfin : ∀ K : Nat → Prop, ¬ K (w.heap.size + 1) → ¬ K (w.heap.size + 1 + 1) → ¬ K (w.heap.size + 1 + 1 + 1) → Holds K Z2 ((X.setCell ⟨w.heap.size + 1 + 1, 0, none⟩ (.bool false)).setCell ⟨w.heap.size + 1 + 1 + 1, 0, none⟩ (.int .i64 0)) := fun K k1 k2 k3 => ((zh.mono (fun r _ hr e => k1 (e ▸ hr))).set _ k2 _).set _ k3 _
            have zsz := (zfin (fun _ => False) id id id).size
            have hVs := HVs.out
            refine ⟨M2, fun r hr => Nat.lt_of_lt_of_le (hM2 r hr).2 zsz, fun r h => .inl h, zfin _ (by omega) (by omega) (by omega), y, find_yes Hy.out Hcl.out Hno2.out, ⟨(z0.far (by first | (simp; done) | (simp; omega)) _).far (by first | (simp; done) | (simp; omega)) _, (z1.far (by simp) _).far (by first | (simp; done) | (simp; omega)) _, (z2.set 0 (.bool false)).far (by simp) _, (z3.far (by simp) _).set 0 (.int .i64 0), (zk.setCell (by first | (simp; done) | (simp; omega)) _).setCell (by first | (simp; done) | (simp; omega)) _⟩, Holds.trans2 (hh2.mono (fun r hr _ => hr)) (zfin (fun r => r < w.heap.size ∨ (w.heap.size + 4 ≤ r ∧ r < Z.heap.size)) (by omega) (by omega) (by omega)) (fun r _ h => h)⟩
          · have Hcl := Lib.hid (show cl2 l x y = false by rw [He1.out]; simp [e3])
            have q3 : decide ((x.1 : Int) < y.1) = false := by simp; omega
            have q4 : decide (x.1 < y.1) = false := by simp; omega
            clear e1 e2
            gi_wp2_with (first | refine in_load_row rfl 52 _ rfl b6 rfl 52 #[.int .i64 (stp1 l x.1 x.2), .int .i64 (stp2 l x.1 x.2)] _ h62 Try.underlying52 rfl (sizeSt _ _) ?_ | refine in_load_row rfl 52 _ rfl b8 rfl 52 #[.int .i64 (stp1 l y.1 y.2), .int .i64 (stp2 l y.1 y.2)] _ h8 Try.underlying52 rfl (sizeSt _ _) ?_)
            exact ⟨M2, fun r hr => (hM2 r hr).2, fun r h => .inl h, Holds.refl _ _, (Hgo.out Hcl.out).2, hC2, h52, h62, hh2⟩
        · have q1 : (stp1 l x.1 x.2 == stp1 l y.1 y.2) = true := by simp [e1]
          have q2 : (stp2 l x.1 x.2 == stp2 l y.1 y.2) = false := by simp [e2]
          have Hcl := Lib.hid (show cl2 l x y = false by rw [He1.out]; simp [e2])
          clear e1 e2
          gi_wp2_with (first | refine in_load_row rfl 52 _ rfl b6 rfl 52 #[.int .i64 (stp1 l x.1 x.2), .int .i64 (stp2 l x.1 x.2)] _ h62 Try.underlying52 rfl (sizeSt _ _) ?_ | refine in_load_row rfl 52 _ rfl b8 rfl 52 #[.int .i64 (stp1 l y.1 y.2), .int .i64 (stp2 l y.1 y.2)] _ h8 Try.underlying52 rfl (sizeSt _ _) ?_)
          exact ⟨M2, fun r hr => (hM2 r hr).2, fun r h => .inl h, Holds.refl _ _, (Hgo.out Hcl.out).2, hC2, h52, h62, hh2⟩
      · have q1 : (stp1 l x.1 x.2 == stp1 l y.1 y.2) = false := by simp [e1]
        have Hcl := Lib.hid (show cl2 l x y = false by rw [He1.out]; simp [e1])
        clear e1
        gi_wp2_with (first | refine in_load_row rfl 52 _ rfl b6 rfl 52 #[.int .i64 (stp1 l x.1 x.2), .int .i64 (stp2 l x.1 x.2)] _ h62 Try.underlying52 rfl (sizeSt _ _) ?_ | refine in_load_row rfl 52 _ rfl b8 rfl 52 #[.int .i64 (stp1 l y.1 y.2), .int .i64 (stp2 l y.1 y.2)] _ h8 Try.underlying52 rfl (sizeSt _ _) ?_)
        exact ⟨M2, fun r hr => (hM2 r hr).2, fun r h => .inl h, Holds.refl _ _, (Hgo.out Hcl.out).2, hC2, h52, h62, hh2⟩
    case done2 =>
      rintro M2 Z2 ⟨hno2, hC2, h52, h62, hh2⟩ hM2
      have HVs := Lib.hid hVs
      have Hno2 := Lib.hid hno2
      clear hVs hno2
      gi_wp2_with fail
      refine ⟨M1, fun r hr => Nat.lt_of_lt_of_le (hM1 r hr).2 hh2.size, fun r h => .inl h, hh2.mono (fun r hr _ => hr), fun i p hi hp => ?_, hC2⟩
      by_cases h : i < j
      · exact Hno.out i p h hp
      · obtain rfl : i = j := by omega
        rw [Hx.out] at hp
        cases hp
        exact find_no Hno2.out
    case stop2 =>
      rintro k2 M2 Z2 ⟨q, hq, hC2, hh2⟩ hM2
      have HVs := Lib.hid hVs
      have Hq := Lib.hid hq
      have HYs2 := HYs
      clear hVs hq
      gi_wp2_with fail
      have hYs := HYs.out
      exact ⟨M1, fun r hr => Nat.lt_of_lt_of_le (hM1 r hr).2 hh2.size, fun r h => .inl h, hh2.mono (fun r hr h => by omega), x, q, clearF_some Hx.out Hq.out Hno.out, hC2⟩
  case done =>
    rintro M1 Z ⟨hno, hC⟩ hK hM1
    have HYs := Lib.hid hYs
    have HK := Lib.hid hK
    have Hno := Lib.hid hno
    clear hYs hK hno
    gi_wp2_with (
      refine in_store_row rfl 27 _ _ rfl (w.heap.size + 1) (ia 0 0 0 0) rfl rfl 27 (ia 0 0 0 0) hC.h1 (sizeF _ _ _ _) rfl (by simp [ia, Value.oneCell']) ?_
      have z1 := hC.h1.row (ia 0 0 0 0)
      have z2 := hC.h2.rowfar (g' := w.heap.size + 1) (by omega) (ia 0 0 0 0)
      have z3 := hC.h3.rowfar (g' := w.heap.size + 1) (by omega) (ia 0 0 0 0)
      have zk : Keeps w (Z.setRow (w.heap.size + 1) (ia 0 0 0 0)) := below_row hC.hk (by omega) _
      have zh : Holds (fun r => r ≠ w.heap.size + 1) Z (Z.setRow (w.heap.size + 1) (ia 0 0 0 0)) := Holds.row (Holds.refl _ _) _ (by simp) _
      generalize Z.setRow (w.heap.size + 1) (ia 0 0 0 0) = X at *
      have f2 := z2.frozen 0
      have f3 := z3.frozen 0
      have c2 := z2.cell 0
      have c3 := z3.cell 0
      simp only [List.getElem?_toArray, List.getElem?_cons_zero] at c2 c3)
    have hYs := HYs.out
    have hfin : Holds (fun r => r = Y.heap.size) Z ((X.setCell ⟨w.heap.size + 1 + 1, 0, none⟩ (.bool true)).setCell ⟨w.heap.size + 1 + 1 + 1, 0, none⟩ (.int .i64 0)) := ((zh.mono (fun r _ hr e => by omega)).set _ (by first | (simp; done) | (simp; omega)) _).set _ (by first | (simp; done) | (simp; omega)) _
    have hput : ∀ g, g ≠ Y.heap.size → g ≠ Y.heap.size := fun _ h => h
    refine ⟨by simp, .inl ⟨_, _, rfl, run_takeDeferred ((hfin.block _ (Array.getElem?_eq_some_iff.1 HK.out).1 rfl).trans HK.out), ?_⟩⟩
    have hfp : Holds (fun r => r ≠ Y.heap.size) ((X.setCell ⟨w.heap.size + 1 + 1, 0, none⟩ (.bool true)).setCell ⟨w.heap.size + 1 + 1 + 1, 0, none⟩ (.int .i64 0)) (((X.setCell ⟨w.heap.size + 1 + 1, 0, none⟩ (.bool true)).setCell ⟨w.heap.size + 1 + 1 + 1, 0, none⟩ (.int .i64 0)).putObj Y.heap.size (.deferred none)) := (Holds.refl _ _).put _ (by simp) _
    have y1 := ((z1.far (p := ⟨w.heap.size + 1 + 1, 0, none⟩) (by simp) (.bool true)).far (p := ⟨w.heap.size + 1 + 1 + 1, 0, none⟩) (by first | (simp; done) | (simp; omega)) (.int .i64 0)).holds hfp (by omega)
    have y2 := (((z2.set 0 (.bool true)).far (p := ⟨w.heap.size + 1 + 1 + 1, 0, none⟩) (by simp) (.int .i64 0)).holds hfp (by omega)).cell 0
    have y3 := (((z3.far (p := ⟨w.heap.size + 1 + 1, 0, none⟩) (by simp) (.bool true)).set 0 (.int .i64 0)).holds hfp (by omega)).cell 0
    have hcn := clearF_none Hno.out
    have hct : clearT l = (0, 0, 0, 0) := by rw [clearT, hcn]
    rw [hct, hcn]
    exact ⟨_, results_3 Try.results8 _ _ (w.heap.size + 1) (w.heap.size + 1 + 1) (w.heap.size + 1 + 1 + 1) _ _ _ _ _ rfl rfl rfl y1 Try.underlying27 rfl (sizeF _ _ _ _) y2 y3 (Try.isAgg4 _) (Try.isAgg24 _), rfl, ((Holds.of_below ((zk.setCell (by first | (simp; done) | (simp; omega)) _).setCell (by first | (simp; done) | (simp; omega)) _)).trans2 hfp (fun r _ h => by omega)).below (Nat.le_refl _)⟩
  case stop =>
    rintro k M1 Z ⟨p, q, hpq, hC⟩ hK hM1
    have HYs := Lib.hid hYs
    have HK := Lib.hid hK
    have Hpq := Lib.hid hpq
    clear hYs hK hpq
    gi_wp2_with fail
    have hYs := HYs.out
    refine ⟨by simp, .inl ⟨_, _, rfl, run_takeDeferred HK.out, ?_⟩⟩
    have hfp : Holds (fun r => r ≠ Y.heap.size) Z (Z.putObj Y.heap.size (.deferred none)) := (Holds.refl _ _).put _ (by simp) _
    have y1 := hC.h1.holds hfp (by omega)
    have y2 := (hC.h2.holds hfp (by omega)).cell 0
    have y3 := (hC.h3.holds hfp (by omega)).cell 0
    have hcn := Hpq.out
    have hct : clearT l = (p.1, p.2, q.1, q.2) := by rw [clearT, hcn]
    rw [hct, hcn]
    exact ⟨_, results_3 Try.results8 _ _ (w.heap.size + 1) (w.heap.size + 1 + 1) (w.heap.size + 1 + 1 + 1) _ _ _ _ _ rfl rfl rfl y1 Try.underlying27 rfl (sizeF _ _ _ _) y2 y3 (Try.isAgg4 _) (Try.isAgg24 _), rfl, ((Holds.of_below hC.hk).trans2 hfp (fun r _ h => by omega)).below (Nat.le_refl _)⟩
def clearA (l : List Int) : Array Value := if ordB l then ia (clearT l).1 (clearT l).2.1 (clearT l).2.2.1 (clearT l).2.2.2 else ia 0 0 0 0
def clearK (l : List Int) : Bool := ordB l && (clearF l).isNone
theorem clear_c (A : Option Addr) (c : Nat) (l : List Int) (w : World) (hv : RdI w (.slice A l.length c) l) :
    Calls Try.prog 8 #[.slice A l.length c] w fun e w' => e = .returned (.tuple #[.agg (clearA l), .bool (clearK l), .int .i64 (if ordB l then 0 else 2)]) ∧ Keeps w w' := by
  by_cases ho : ordB l = true
  · have := clear_yes A c l ho w hv
    rw [clearA, clearK, ho, if_pos rfl, if_pos rfl, Bool.true_and]
    exact this
  · have ho' : ordB l = false := by simpa using ho
    have := clear_no A c l ho' w hv
    rw [clearA, clearK, ho']
    exact this
end Go.Proofs.Ytdploccpobpjjaa
