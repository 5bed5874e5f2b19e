/- The walk of Worst. -/
import Derived.Test.YtdploccpobpjjaaYg
import Derived.Test.YtdploccpobpjjaaSk
import Derived.Test.YtdploccpobpjjaaUb
import Derived.OwnWalkIn
namespace Go.Proofs.Ytdploccpobpjjaa
open Go.RowKit Go.Shelf Go.Maps Go.WideShapes Go.ChangeMaps
set_option linter.unusedVariables false
set_option linter.unusedSimpArgs false
attribute [local go_sem] Oper.semAt_some

theorem holds_drew' {K : Nat → Prop} (w : World) : Holds K w w.drew := ⟨rfl, rfl, rfl, Nat.le_refl _, fun _ _ _ => rfl⟩
theorem holds_block {K : Nat → Prop} {a w : World} (h : Holds K a w) (b : Nat) (hb : ¬ K b) (o : Obj) : Holds K a (setBlock w b o) := h.put b hb o
theorem op_load_row {F : Fence} {n : Nat} {P : Program} {o : Oper} {a : Act} {w : World} {K : Act → World → Prop} {Q : Exit → Act → World → Prop} (ty : TypeId) (x : Operand) (ho : o.op = .load ty x)
    (g : Nat) (hx : a.eval x = .pointer (some ⟨g, 0, none⟩)) (t : TypeId) (cs : Array Value) (d : TypeDesc) (hg : At w g t cs)
    (hu : P.underlying ty = some d) (hd : (match d with | .struct _ | .array _ _ => true | _ => false) = true) (hi : (P.info? ty).map (·.size) = some cs.size)
    (h : K (a.put o.dst (.agg cs)) w) : o.wpIn F n P a w K Q := by
  unfold Oper.wpIn
  refine ⟨?_, ?_⟩
  · simp [Oper.about, ho]
  · rw [Oper.semAt_plain F _ _ (by rw [ho]; intro c hc'; cases hc')]
    simp only [execOp, ho, hx, Instr.loadAt, Instr.sureAddr, Sem.run_bind, Sem.run_pure, Result.andThen_ok, run_loadVar_row w g t ty cs (0, 0) d hg hu hd hi]
    exact h
theorem op_store_row {F : Fence} {n : Nat} {P : Program} {o : Oper} {a : Act} {w : World} {K : Act → World → Prop} {Q : Exit → Act → World → Prop} (ty : TypeId) (x y : Operand) (ho : o.op = .store ty x y)
    (g : Nat) (cells : Array Value) (hx : a.eval x = .pointer (some ⟨g, 0, none⟩)) (hy : a.eval y = .agg cells)
    (t : TypeId) (old : Array Value) (hg : At w g t old) (hi : (P.info? ty).map (·.size) = some cells.size)
    (hold : old.size = cells.size) (h1 : cells.all (·.oneCell') = true)
    (h : K (a.put o.dst undef) (w.setRow g cells)) : o.wpIn F n P a w K Q := by
  unfold Oper.wpIn
  refine ⟨?_, ?_⟩
  · simp [Oper.about, ho]
  · rw [Oper.semAt_plain F _ _ (by rw [ho]; intro c hc'; cases hc')]
    simp only [execOp, ho, hx, hy, Instr.storeAt, Instr.sureAddr, Sem.run_bind, Sem.run_pure, Result.andThen_ok, run_storeVar_row w g t ty old cells hg hi hold h1]
    exact h
theorem results_mix {P : Program} {fn : Func} {p u v : Tmp} {t1 : TypeId} (hr : fn.results = #[.tmp u, .cell p t1, .tmp v]) (tmps : Array Value) (w : World) (g1 : Nat) (s1 : TypeId) (cs : Array Value) (d : TypeDesc)
    (hp : tmps.getD p undef = .pointer (some ⟨g1, 0, none⟩)) (hg : At w g1 s1 cs) (hd : P.underlying t1 = some d) (hdd : (match d with | .struct _ | .array _ _ => true | _ => false) = true) (hi : (P.info? t1).map (·.size) = some cs.size) :
    (results fn tmps).run P w = .ok (.tuple #[tmps.getD u undef, .agg cs, tmps.getD v undef]) w := by
  have hp' : tmps[p]?.getD undef = .pointer (some ⟨g1, 0, none⟩) := by simpa using hp
  have e1 : (loadVar t1 ⟨g1, 0, none⟩).run P w = .ok (.agg cs) w := run_loadVar_row w g1 s1 t1 cs (0, 0) d hg hd hdd hi
  simp [results, hr, hp', asAddr, Sem.run_bind, e1, Result.andThen]
/-- How many of the first k steps are this one. -/
def cntS (l : List Int) (k : Nat) (u v : Int) : Nat := ((prs l.length).take k).countP fun x => decide (u = stp1 l x.1 x.2 ∧ v = stp2 l x.1 x.2)
theorem take_one {α : Type} (xs : List α) (j : Nat) (x : α) (h : xs[j]? = some x) : xs.take (j + 1) = xs.take j ++ [x] := by
  rw [List.take_add_one, h]; rfl
theorem cntS_succ (l : List Int) (k : Nat) (x : Nat × Nat) (h : (prs l.length)[k]? = some x) : cntS l (k + 1) = fun a d => cntS l k a d + if a = stp1 l x.1 x.2 ∧ d = stp2 l x.1 x.2 then 1 else 0 := by
  funext a d
  unfold cntS
  rw [take_one _ _ _ h, List.countP_append]
  simp [List.countP_cons]
theorem lfm_le {α β : Type} (f : α → List β) (N : Nat) : ∀ (l : List α), (∀ x ∈ l, (f x).length ≤ N) → (l.flatMap f).length ≤ l.length * N
  | [], _ => by simp
  | x :: l, h => by
    have h1 := h x (by simp)
    have h2 := lfm_le f N l (fun y hy => h y (by simp [hy]))
    simp only [List.flatMap_cons, List.length_append, List.length_cons, Nat.succ_mul]
    omega
theorem prs_lenS (n : Nat) : (prs n).length ≤ n * n := by
  unfold prs prsF
  refine Nat.le_trans (lfm_le (fun x => rowP n x (x + 1)) n _ (fun x _ => by unfold rowP; simp)) ?_
  simp
theorem cntS_le (l : List Int) (k : Nat) (u v : Int) : cntS l k u v ≤ k := Nat.le_trans List.countP_le_length (List.length_take_le _ _)
theorem size2 (a b : Int) : (Try.prog.info? 34).map (·.size) = some (ic [a, b]).size := by
  show _ = some 2; kernel_rfl
/-- The greatest so far, and where. -/
def wstep (g : Int → Int → Nat) (s : Nat × Int × Int) (u v : Int) : Nat × Int × Int := if s.1 < g u v then (g u v, u, v) else s
def wV (g : Int → Int → Nat) (n : Nat) (u : Int) (s : Nat × Int × Int) : Nat → Nat × Int × Int
  | 0 => s
  | k + 1 => wstep g (wV g n u s k) u (1 - (n : Int) + k)
def wU (g : Int → Int → Nat) (n : Nat) : Nat → Nat × Int × Int
  | 0 => (0, 0, 0)
  | k + 1 => wV g n k (wU g n k) (2 * n - 1)
set_option maxHeartbeats 4000000 in
set_option maxRecDepth 100000 in
theorem worst_yes (A : Option Addr) (c : Nat) (l : List Int) (ho : ordB l = true) (w : World) (hv : RdI w (.slice A l.length c) l) :
    Calls Try.prog 12 #[.slice A l.length c] w fun e w' => e = .returned (.tuple #[.int .i64 ((wU (cntS l (prs l.length).length) l.length l.length).1 : Nat), .agg (ic [(wU (cntS l (prs l.length).length) l.length l.length).2.1, (wU (cntS l (prs l.length).length) l.length l.length).2.2]), .int .i64 0]) ∧ Keeps w w' := by
  have hor := fun x hx => isOrder_c (.slice A l.length c) l x hx
  obtain ⟨ho1, ho2, ho3, ho4⟩ := ordB_parts l ho
  have hlow := low_all l l.length (by omega) ho3
  rw [ho] at hor
  have hmm := @run_makeMap Try.prog
  have Ho4 := Lib.hid ho4
  have Ho3 := Lib.hid ho3
  clear ho ho4 ho3
  refine (callsIn_wide (n := 5)).1 ?_
  refine callsIn_of_wp_marks Try.func12 rfl trivial ?_ rfl
  simp only [Try.ntmps12, List.size_toArray, List.length_cons, List.length_nil, Nat.reduceAdd, Nat.reduceSub, Array.replicate_succ, Array.replicate_zero, List.push_toArray, List.append_toArray, List.nil_append, List.cons_append]
  gi_wp2_with fail
  refine ⟨trivial, (callsIn_wide.2 (hor _ (hv.below (Keeps.alloc (Below.refl _ _) _)))).mono ?_⟩
  rintro e w1 ⟨rfl, hb1⟩
  have hr1 : At w1 w.heap.size 34 (ic [0, 0]) := (At.new w _ _).later hb1
  have hbw : Keeps w w1 := Keeps.next (Keeps.alloc (Below.refl _ _) _) hb1
  have hv1 := hv.below hbw
  have hwl := hr1.lt
  clear hb1 hor
  gi_wp2_with fail
  refine ⟨trivial, (callsIn_wide.2 (steps_c A l.length c _)).mono ?_⟩
  rintro e w2 ⟨rfl, rfl⟩
  clear hmm
  gi_wp2_with fail
  obtain ⟨Y, hY⟩ : ∃ Y, ((w1.alloc (.map #[] 0)).alloc (.cells #[.map (some w1.heap.size)] 56)).alloc (.cells #[.slice A l.length c] 22) = Y := ⟨_, rfl⟩
  have hYs : Y.heap.size = w1.heap.size + 3 := by rw [← hY]; simp
  have hmY : CMap Y w1.heap.size 0 (cntS l 0) := by
    rw [← hY]
    exact ⟨_, ((World.ownsMap_made w1 _ _ _).alloc _).alloc _, CntD.nil⟩
  have hbY : At Y (w1.heap.size + 1) 56 #[.map (some w1.heap.size)] := by rw [← hY]; exact (At.new' _ _ (by simp) _ _).alloc _
  have hxY : At Y (w1.heap.size + 1 + 1) 22 #[.slice A l.length c] := by rw [← hY]; exact At.new' _ _ (by simp) _ _
  have hkY : Keeps w1 Y := by rw [← hY]; exact Keeps.alloc (Keeps.alloc (Keeps.alloc (Below.refl _ _) _) _) _
  have hrY := hr1.later hkY
  have hwY := Keeps.next hbw hkY
  rw [hY]
  clear hY hr1
  have hvK : ∀ X', Holds (fun r => r < w1.heap.size ∨ r = w1.heap.size + 1 + 1) Y X' → RdI X' (.slice A l.length c) l := fun X' hh => hv1.below ((Holds.of_below hkY).trans2 hh (fun r _ h => .inl h) |>.below (Nat.le_refl _))
  refine range_mine (prs l.length) (gf := 33) (lb := #[.pointer (some ⟨w1.heap.size + 1 + 1, 0, none⟩)]) rfl (enters_of Try.func33 (by kernel_rfl) rfl)
    (steps_iter A c l hlow (w1.heap.size + 1 + 1) (fun r => r < w1.heap.size ∨ r = w1.heap.size + 1 + 1) (.inr rfl) Y (fun r h => by omega) hxY hvK)
    (fun _ _ => rfl) (fun r h => by omega) (fun _ _ _ _ _ _ => trivial)
    (fun k M Z => CMap Z w1.heap.size k (cntS l k) ∧ At Z (w1.heap.size + 1) 56 #[.map (some w1.heap.size)] ∧ At Z w.heap.size 34 (ic [0, 0]) ∧ Below w.heap.size w Z) (fun _ _ _ => False)
    (fun k M Z Z' h hh => ⟨h.1.holds hh (.inl (by omega)), h.2.1.holds hh (.inl (by omega)), h.2.2.1.holds hh (.inl (by omega)), ((Holds.of_below h.2.2.2).trans2 hh (fun r _ h => .inl (by omega))).below (Nat.le_refl _)⟩) (fun _ _ _ _ h _ => h) ⟨hmY, hbY, hrY, hwY⟩
    (fun x a' Z => ∃ b6, Y.heap.size + 2 ≤ b6 ∧ At Z b6 52 (ic [stp1 l x.1 x.2, stp2 l x.1 x.2]) ∧ a' = { tmps := #[.slice A l.length c, undef, .int .i64 0, .pointer (some ⟨w.heap.size, 0, none⟩), .int .i64 0, .pointer (some ⟨w1.heap.size + 1, 0, none⟩), undef, .pointer (some ⟨b6, 0, none⟩), undef, undef, undef, undef, undef, undef, .slice A l.length c, .bool true, .bool false, undef, .map (some w1.heap.size), .slice A l.length c, .func (.func 33) #[] #[.pointer (some ⟨w1.heap.size + 1 + 1, 0, none⟩)],
      .agg #[.int .i64 x.1, .int .i64 x.2], .agg #[.int .i64 (stp1 l x.1 x.2), .int .i64 (stp2 l x.1 x.2)], undef, undef, undef, undef, undef, undef, undef, undef, undef, undef, undef, undef, undef, undef, undef, undef, undef, undef, undef, undef, undef, undef, undef, undef, undef, undef, undef, undef, undef, undef, undef, undef, undef, undef, undef], defers := [] })
    (fun x a Z Z' hh ⟨b6, g6, h6, h7⟩ => ⟨b6, g6, h6.holds hh (by omega), h7⟩) ?assign ?body ?done ?stop
  case assign =>
    intro l' j x M1 Z hx _ _ hsz
    simp only [encS]
    have HYs := Lib.hid hYs
    have Hx := Lib.hid hx
    clear hYs hx
    gi_wp2_with (refine in_store_row rfl 52 _ _ rfl Z.heap.size (ic [stp1 l x.1 x.2, stp2 l x.1 x.2]) rfl rfl 52 (ic [0, 0]) (At.new Z 52 _) (sizeSt _ _) rfl (ic_one _) ?_)
    exact ⟨Holds.mono (Holds.row (K := fun r => r < Z.heap.size) ((Holds.refl _ Z).alloc _) _ (by omega) _) (fun r hr _ => hr), Z.heap.size, hsz, (At.new Z 52 (ic [0, 0])).row _, rfl⟩
  case body =>
    rintro l' j x M1 a' Z hx ⟨hM, hB, hR, hbel⟩ hM1 hKin _ ⟨b6, g6, h6, rfl⟩ hsz
    obtain ⟨hp1, hp2⟩ := prs_mem _ _ (List.mem_of_getElem? hx)
    have hn1 := (hasB_iff _ _).1 (List.all_eq_true.1 Ho3.out _ (nth_mem l x.1 (by omega)))
    have hn2 := (hasB_iff _ _).1 (List.all_eq_true.1 Ho3.out _ (nth_mem l x.2 hp2))
    have wU : (Lit.int .i64 (stp1 l x.1 x.2)).wf = true := WalkArith.wf_i64 (by unfold stp1; omega)
    have wX : (Lit.int .i64 (stp2 l x.1 x.2)).wf = true := WalkArith.wf_i64 (by unfold stp2; omega)
    have hjl := (List.getElem?_eq_some_iff.1 hx).1
    have hpl := prs_lenS l.length
    have h256 : l.length * l.length ≤ 256 := Nat.le_trans (Nat.mul_le_mul ho2 ho2) (by decide)
    have hcl := cntS_le l j (stp1 l x.1 x.2) (stp2 l x.1 x.2)
    have hcl2 : cntS l j (stp1 l x.1 x.2) (stp2 l x.1 x.2) ≤ 256 := by omega
    clear hcl
    have Hs := Lib.hid (cntS_succ l j x hx)
    have hlk : ∀ w' n', CMap w' w1.heap.size n' (cntS l j) → (Instr.lookup 56 (.map (some w1.heap.size)) (.agg #[.int .i64 (stp1 l x.1 x.2), .int .i64 (stp2 l x.1 x.2)]) false).run Try.prog w' = .ok (.int .i64 (cntS l j (stp1 l x.1 x.2) (stp2 l x.1 x.2) : Int)) w' := fun w' _ h => h.look wU wX
    have hen : ∀ w', CMap w' w1.heap.size j (cntS l j) → _ := fun w' h => h.entry (u := stp1 l x.1 x.2) (v := stp2 l x.1 x.2) (by unfold maxLen; omega) wU wX (WalkArith.wf_i64 (by omega))
    have hnx : ∀ w', CMap w' w1.heap.size (j + 1) (fun a d => cntS l j a d + if a = stp1 l x.1 x.2 ∧ d = stp2 l x.1 x.2 then 1 else 0) → CMap w' w1.heap.size (j + 1) (cntS l (j + 1)) := fun w' h => by rw [Hs.out]; exact h
    generalize hf1 : cntS l (j + 1) = f1 at *
    generalize cntS l j = f at *
    have HYs := Lib.hid hYs
    clear hp1 hp2 hn1 hn2 wU wX hx hpl h256 Hs
    generalize stp1 l x.1 x.2 = U at *
    generalize stp2 l x.1 x.2 = X at *
    have q1 : IntKind.i64.wrap ((f U X : Int) + 1) = (f U X : Int) + 1 := by rw [IntWalk.i64_in _ (by omega)]
    refine wpIn_block ?_
    refine region_earlyIn [] (G := (Value × Int × Array MapEntry × Nat) × Int) (f := ?f) (fun G => [.map (some w1.heap.size), .agg #[.int .i64 U, .int .i64 X], .int .i64 (f U X), .int .i64 ((f U X : Int) + 1), .tuple #[G.1.1, .int .i64 G.1.2.1], .int .i64 G.2, undef])
      (fun G L w' => Holds (fun r => r ≠ w1.heap.size) Z w' ∧ (L 4 = false → CMap w' w1.heap.size j f) ∧ (L 4 = true → L 6 = false → CMap w' w1.heap.size (j + 1) f ∧ w'.heap[w1.heap.size]? = some (.map G.1.2.2.1 G.1.2.2.2) ∧ ∀ w2 : World, w2.heap[w1.heap.size]? = some (.map G.1.2.2.1 G.1.2.2.2) → ∃ es' c', (Instr.entryStore 56 (.map (some w1.heap.size)) (.int .i64 G.1.2.1) (.int .i64 ((f U X : Int) + 1))).run Try.prog w2 = .ok () (setBlock w2 w1.heap.size (.map es' c')) ∧ CMap (setBlock w2 w1.heap.size (.map es' c')) w1.heap.size (j + 1) (fun a d => f a d + if a = U ∧ d = X then 1 else 0)) ∧ (L 6 = true → CMap w' w1.heap.size (j + 1) f1) ∧ (L 5 = true → G.2 = G.1.2.1))
      ((undef, 0, #[], 0), 0) (fun _ => ?hf) (by kernel_rfl) (by kernel_rfl) (by kernel_rfl) (fun _ h => by cases h) ⟨holds_drew' Z, fun _ => hM.holds (holds_drew' (K := fun _ => True) Z) trivial, fun h => (by cases h), fun h => (by cases h), fun h => (by cases h)⟩ ?steps ?fin
    case hf =>
      simp only [fill, List.toList_toArray, List.zip_cons_cons, List.zip_nil_left, List.zip_nil_right, List.foldl_cons, List.foldl_nil, Act.put, List.setIfInBounds_toArray, List.set_cons_succ, List.set_cons_zero]
      exact rfl
    case steps =>
      refine StepsIn.cons rfl (fun G L w' hL hr hc hF => ?_) ?_
      · obtain ⟨p1, q2, q3, q4, q5⟩ := hF
        have cw : w'.cell? ⟨w1.heap.size + 1, 0, none⟩ = _ := (hB.holds p1 (by omega)).cell 0
        simp only [List.getElem?_toArray, List.getElem?_cons_zero] at cw
        refine StepIn.go rfl (fun K hK => ?_)
        clear hlk hen hnx
        go_simp
        exact hK G _ ⟨p1, q2, q3, q4, q5⟩
      refine StepsIn.cons rfl (fun G L w' hL hr hc hF => ?_) ?_
      · obtain ⟨p1, q2, q3, q4, q5⟩ := hF
        have h6w : At w' b6 52 (ic [U, X]) := h6.holds p1 (by omega)
        refine StepIn.go rfl (fun K hK => ?_)
        refine op_load_row 52 _ rfl b6 rfl 52 (ic [U, X]) _ h6w Try.underlying52 rfl (sizeSt _ _) ?_
        exact hK G _ ⟨p1, q2, q3, q4, q5⟩
      refine StepsIn.cons rfl (fun G L w' hL hr hc hF => ?_) ?_
      · obtain ⟨p1, q2, q3, q4, q5⟩ := hF
        have e6 := hc.not 6 3 rfl rfl (hc.not 3 2 rfl rfl hL)
        have hrun : (Instr.lookup 56 (.map (some w1.heap.size)) (.agg #[.int .i64 U, .int .i64 X]) false).run Try.prog w' = .ok (.int .i64 (f U X : Int)) w' := by
          cases e4 : L 4 with
          | false => exact hlk w' _ (q2 e4)
          | true => exact hlk w' _ (q3 e4 e6).1
        refine StepIn.go rfl (fun K hK => ?_)
        clear hlk hen hnx
        go_simp
        exact hK G _ ⟨p1, q2, q3, q4, q5⟩
      refine StepsIn.cons rfl (fun G L w' hL hr hc hF => ?_) ?_
      · obtain ⟨p1, q2, q3, q4, q5⟩ := hF
        refine StepIn.go rfl (fun K hK => ?_)
        clear hlk hen hnx
        go_simp
        exact hK G _ ⟨p1, q2, q3, q4, q5⟩
      refine StepsIn.cons rfl (fun G L w' hL hr hc hF => ?_) ?_
      · obtain ⟨p1, q2, q3, q4, q5⟩ := hF
        have e5 := hc.not 5 4 rfl rfl hL
        have e6 := hc.not 6 5 rfl rfl e5
        obtain ⟨v0, st, es1, c1, hrun, hC1, hst⟩ := hen w' (q2 hL)
        refine StepIn.go rfl (fun K hK => ?_)
        clear hlk hen hnx
        go_simp
        refine hK ((v0, st, es1, c1), G.2) _ ⟨?_, fun h => (by rw [add_same] at h; cases h), fun _ _ => ⟨hC1, ?_, hst⟩, fun h => (by have h' : L 6 = true := h; rw [e6] at h'; cases h'), fun h => (by have h' : L 5 = true := h; rw [e5] at h'; cases h')⟩
        · exact holds_block p1 _ (by simp) _
        · obtain ⟨D, ⟨es, clock, hb, _⟩, _⟩ := q2 hL
          exact heap_setBlock_same hb _
      refine StepsIn.cons rfl (fun G L w' hL hr hc hF => ?_) ?_
      · obtain ⟨p1, q2, q3, q4, q5⟩ := hF
        refine StepIn.go rfl (fun K hK => ?_)
        clear hlk hen hnx
        go_simp
        exact hK (G.1, G.1.2.1) _ ⟨p1, q2, q3, q4, fun _ => rfl⟩
      refine StepsIn.cons rfl (fun G L w' hL hr hc hF => ?_) ?_
      · obtain ⟨p1, q2, q3, q4, q5⟩ := hF
        have e5 : L 5 = true := hr 5 rfl
        have e4 : L 4 = true := by
          cases e : L 4 with
          | true => rfl
          | false => have := hc.not 5 4 rfl rfl e; rw [e5] at this; cases this
        obtain ⟨hC1, hb, hst⟩ := q3 e4 hL
        obtain ⟨es', c', hrun, hC⟩ := hst w' hb
        rw [← q5 e5] at hrun
        have Hq5 := Lib.hid q5
        refine StepIn.go rfl (fun K hK => ?_)
        clear hst hlk hen q5
        go_simp
        refine hK G _ ⟨holds_block p1 _ (by simp) _, fun h => (by have h' : L 4 = false := h; rw [e4] at h'; cases h'), fun _ h => (by rw [add_same] at h; cases h), fun _ => hnx _ hC, Hq5.out⟩
      exact StepsIn.nil (by simp)
    case fin =>
    intro G L w5 hall hF
    obtain ⟨p1, _, _, q4, _⟩ := hF
    have hC := q4 (hall 6 (by simp))
    have hs5 := p1.size
    have hYs := HYs.out
    gi_wp2_with fail
    refine ⟨M1, fun r hr => Nat.lt_of_lt_of_le (hM1 r hr).2 hs5, fun r h => .inl h, p1.mono (fun r _ h => by omega), ?_, hB.holds p1 (by omega), hR.holds p1 (by omega), ((Holds.of_below hbel).trans2 p1 (fun r h _ => by omega)).below (Nat.le_refl _)⟩
    rw [hf1]
    exact hC
  case done =>
    rintro M1 Z ⟨hM, hB, hR, hbel⟩ hK hM1
    have HYs := Lib.hid hYs
    have HK := Lib.hid hK
    have hpl := prs_lenS l.length
    have h256 : l.length * l.length ≤ 256 := Nat.le_trans (Nat.mul_le_mul ho2 ho2) (by decide)
    have Hg : Hid (∀ u v, cntS l (prs l.length).length u v ≤ 256) := Lib.hid (fun u v => Nat.le_trans (cntS_le _ _ _ _) (by omega))
    obtain ⟨g, hg⟩ : ∃ g, cntS l (prs l.length).length = g := ⟨_, rfl⟩
    rw [hg] at hM Hg
    clear hpl h256 hYs hK hmY hbY hxY hkY hrY hwY hvK hv1 hlow
    have sY := hbel.size
    have sM := hM.lt
    gi_wp2_with (refine in_store_row rfl 34 _ _ rfl Z.heap.size (ic [0, 0]) rfl rfl 34 (ic [0, 0]) (At.new Z 34 _) (size2 _ _) rfl (ic_one _) ?_)
    obtain ⟨V, hV⟩ : ∃ V, (Z.alloc (.cells #[.int .i64 0, .int .i64 0] 34)).setRow Z.heap.size (ic [0, 0]) = V := ⟨_, rfl⟩
    have vS : At V Z.heap.size 34 (ic [0, 0]) := by rw [← hV]; exact (At.new Z _ _).row _
    have vZ : Holds (fun r => r < Z.heap.size) Z V := by rw [← hV]; exact Holds.row ((Holds.refl _ Z).alloc _) _ (by simp) _
    have mV := hM.holds vZ (by omega)
    have bV := hB.holds vZ (by have := hB.lt; omega)
    have rV := hR.holds vZ (by have := hR.lt; omega)
    have lB := hB.lt
    have lR := hR.lt
    rw [show (Z.alloc (.cells #[.int .i64 0, .int .i64 0] 34)).setRow Z.heap.size (ic [0, 0]) = V from hV]
    clear hV hM hB hR
    obtain ⟨n, hn⟩ : ∃ n, l.length = n := ⟨_, rfl⟩
    have HN := Lib.hid hn
    have HG := Lib.hid hg
    rw [hn] at ho1 ho2 hv ⊢
    clear hn hg
    have HV := Lib.hid vZ
    generalize hsh : Z.heap.size = sh at *
    have Hsh := Lib.hid hsh
    clear hsh vZ
    gi_loopw [8, 33] (fun x i wr => ∃ k : Nat, k ≤ n ∧ i = .int .i64 k ∧ x = .int .i64 ((wU g n k).1 : Nat) ∧ At wr sh 34 (ic [(wU g n k).2.1, (wU g n k).2.2]) ∧ Holds (fun r => r ≠ sh) V wr) (fun _ i _ => n - (intOf i).toNat)
    case atStart => exact ⟨0, Nat.zero_le _, rfl, rfl, vS, Holds.refl _ _⟩
    case round =>
      obtain ⟨k, hk, rfl, rfl, hat, hh⟩ := hrel
      by_cases hlt : k < n
      · have hkI : (k : Int) < n := by omega
        have q1 : IntKind.i64.wrap (1 - (n : Int)) = 1 - (n : Int) := by rw [IntWalk.i64_in _ (by omega)]
        have HU : Hid (wU g n (k + 1) = wV g n k (wU g n k) (2 * n - 1)) := Lib.hid rfl
        generalize wU g n k = s at *
        gi_wp2_with fail
        gi_loopw [8, 12] (fun x i wr2 => ∃ j : Nat, j ≤ 2 * n - 1 ∧ i = .int .i64 (1 - (n : Int) + j) ∧ x = .int .i64 ((wV g n k s j).1 : Nat) ∧ At wr2 sh 34 (ic [(wV g n k s j).2.1, (wV g n k s j).2.2]) ∧ Holds (fun r => r ≠ sh) V wr2) (fun _ i _ => ((n : Int) - intOf i).toNat)
        case atStart => exact ⟨0, Nat.zero_le _, by simp, rfl, hat, hh⟩
        case round =>
          obtain ⟨j, hj, rfl, rfl, hat2, hh2⟩ := hrel
          clear hat hh vS
          by_cases hlt2 : j < 2 * n - 1
          · have HW : Hid (wV g n k s (j + 1) = wstep g (wV g n k s j) k (1 - (n : Int) + j)) := Lib.hid rfl
            generalize wV g n k s j = s1 at *
            have hrun := (mV.holds hh2 (by omega)).look (u := (k : Int)) (v := 1 - (n : Int) + j) (WalkArith.wf_i64 (by omega)) (WalkArith.wf_i64 (by omega))
            have cb := (bV.holds hh2 (by omega)).cell 0
            simp only [List.getElem?_toArray, List.getElem?_cons_zero] at cb
            have hvn : 1 - (n : Int) + j < n := by omega
            have q2 : IntKind.i64.wrap (1 - (n : Int) + j + 1) = 1 - (n : Int) + ((j + 1 : Nat) : Int) := by rw [IntWalk.i64_in _ (by omega)]; omega
            have hne : 1 - (n : Int) + ((j + 1 : Nat) : Int) = 1 - (n : Int) + j + 1 := by omega
            rw [hne] at q2
            have Hne := Lib.hid hne
            clear hne
            obtain ⟨v, hv1⟩ : ∃ v : Int, 1 - (n : Int) + j = v := ⟨_, rfl⟩
            rw [hv1] at hrun hvn q2 HW ⊢
            have Hv := Lib.hid hv1
            clear hv1
            by_cases hb : s1.1 < g k v
            · have hd : decide (s1.1 < g k v) = true := by simpa using hb
              have Hw : Hid (wV g n k s (j + 1) = (g k v, (k : Int), v)) := Lib.hid (by rw [HW.out, wstep, if_pos hb])
              clear HW hb
              gi_wp2_with (refine in_store_row rfl 34 _ _ rfl sh (ic [(k : Int), v]) rfl rfl 34 (ic [s1.2.1, s1.2.2]) hat2 (size2 _ _) rfl (ic_one _) ?_)
              go_roundw
              case rel => exact ⟨j + 1, by omega, by rw [Hne.out, Hv.out], by rw [Hw.out], by rw [Hw.out]; exact hat2.row _, hh2.row _ (by simp) _⟩
              case measure => simp [intOf]; omega
            · have hd : decide (s1.1 < g k v) = false := by simpa using hb
              have Hw : Hid (wV g n k s (j + 1) = s1) := Lib.hid (by rw [HW.out, wstep, if_neg hb])
              clear HW hb
              gi_wp2_with fail
              go_roundw
              case rel => exact ⟨j + 1, by omega, by rw [Hne.out, Hv.out], by rw [Hw.out], by rw [Hw.out]; exact hat2, hh2⟩
              case measure => simp [intOf]; omega
          · obtain rfl : j = 2 * n - 1 := by omega
            have hvn : ¬ (1 - (n : Int) + ((2 * n - 1 : Nat) : Int) < n) := by omega
            rw [← HU.out] at hat2 ⊢
            gi_wp2_with fail
            go_roundw
            case rel => exact ⟨k + 1, by omega, by go_num, rfl, hat2, hh2⟩
            case measure => simp [intOf]; omega
      · obtain rfl : k = n := by omega
        have hS : ∃ s, wU g k k = s := ⟨_, rfl⟩
        obtain ⟨s, hs⟩ := hS
        rw [hs] at hat ⊢
        have rW := rV.holds hh (by omega)
        have lW := hat.lt
        clear vS
        gi_wp2_with fail
        refine region_earlyIn [] (G := Unit) (f := ?f2) (fun _ => [.int .i64 (s.1 : Nat), .agg (ic [s.2.1, s.2.2]), .int .i64 (s.1 : Nat), undef, .int .i64 0])
          (fun _ L w' => Holds (fun r => r ≠ w.heap.size) wr w' ∧ At w' sh 34 (ic [s.2.1, s.2.2]) ∧ (L 3 = false → At w' w.heap.size 34 (ic [0, 0])) ∧ (L 3 = true → At w' w.heap.size 34 (ic [s.2.1, s.2.2]))) () (fun _ => ?hf2) (by kernel_rfl) (by kernel_rfl) (by kernel_rfl) (fun _ h => by cases h) ⟨holds_drew' wr, hat.drew, fun _ => rW.drew, fun h => (by cases h)⟩ ?steps2 ?fin2
        case hf2 =>
          simp only [fill, List.toList_toArray, List.zip_cons_cons, List.zip_nil_left, List.zip_nil_right, List.foldl_cons, List.foldl_nil, Act.put, List.setIfInBounds_toArray, List.set_cons_succ, List.set_cons_zero]
          exact rfl
        case steps2 =>
          refine StepsIn.cons rfl (fun G L w' hL hr hc hF => ?_) ?_
          · refine StepIn.go rfl (fun K hK => ?_)
            go_simp
            exact hK () _ hF
          refine StepsIn.cons rfl (fun G L w' hL hr hc hF => ?_) ?_
          · refine StepIn.go rfl (fun K hK => ?_)
            refine op_load_row 34 _ rfl sh rfl 34 (ic [s.2.1, s.2.2]) _ hF.2.1 Try.underlying34 rfl (size2 _ _) ?_
            exact hK () _ hF
          refine StepsIn.cons rfl (fun G L w' hL hr hc hF => ?_) ?_
          · refine StepIn.go rfl (fun K hK => ?_)
            go_simp
            exact hK () _ hF
          refine StepsIn.cons rfl (fun G L w' hL hr hc hF => ?_) ?_
          · obtain ⟨p1, p2, p3, p4⟩ := hF
            refine StepIn.go rfl (fun K hK => ?_)
            refine op_store_row 34 _ _ rfl w.heap.size (ic [s.2.1, s.2.2]) rfl rfl 34 (ic [0, 0]) (p3 hL) (size2 _ _) rfl (ic_one _) ?_
            exact hK () _ ⟨p1.row _ (by simp) _, p2.rowfar (by omega) _, fun h => (by rw [add_same] at h; cases h), fun _ => (p3 hL).row _⟩
          refine StepsIn.cons rfl (fun G L w' hL hr hc hF => ?_) ?_
          · refine StepIn.go rfl (fun K hK => ?_)
            go_simp
            exact hK () _ hF
          exact StepsIn.nil (by simp)
        case fin2 =>
        intro G L w5 hall hF
        obtain ⟨p1, _, _, p4⟩ := hF
        have aR := p4 (hall 3 (by simp))
        have hYs := HYs.out
        have hZ5 : Holds (fun r => r < w1.heap.size + 4 ∧ r ≠ w.heap.size ∧ r < sh) Z w5 := ((HV.out.mono (fun r _ h => h.2.2)).trans2 (hh.mono (K' := fun r => r < w1.heap.size + 4 ∧ r ≠ w.heap.size ∧ r < sh) (fun r _ h => by omega)) (fun r _ h => h)).trans2 (p1.mono (fun r _ h => h.2.1)) (fun r _ h => h)
        gi_wp2_with fail
        have hKl := (Array.getElem?_eq_some_iff.1 HK.out).1
        have hSh := Hsh.out
        have hK5 := (hZ5.block _ hKl ⟨by omega, by omega, by omega⟩).trans HK.out
        refine ⟨by simp, .inl ⟨_, _, rfl, run_takeDeferred hK5, ?_⟩⟩
        have hfp : Holds (fun r => r ≠ Y.heap.size) w5 (w5.putObj Y.heap.size (.deferred none)) := (Holds.refl _ _).put _ (by simp) _
        refine ⟨_, results_mix Try.results12 _ _ w.heap.size _ _ _ rfl (aR.holds hfp (by omega)) Try.underlying34 rfl (size2 _ _), ?_, (((Holds.of_below hbel).trans2 hZ5 (fun r hr _ => ⟨by omega, by omega, by omega⟩)).put _ (by omega) _).below (Nat.le_refl _)⟩
        have e2 := HN.out
        have e1 := HG.out
        rw [e2] at e1 ⊢
        rw [e1, hs]
        rfl
  case stop =>
    rintro j M1 Z h _ _
    exact h.elim
end Go.Proofs.Ytdploccpobpjjaa
