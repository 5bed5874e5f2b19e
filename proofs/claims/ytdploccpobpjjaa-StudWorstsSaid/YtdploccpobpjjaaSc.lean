/- The walks of lastRepeats, isClear. -/
import Derived.Test.YtdploccpobpjjaaSb
namespace Go.Proofs.Ytdploccpobpjjaa
open Go.RowKit Go.Shelf
set_option linter.unusedVariables false
attribute [local go_sem] Oper.semAt_some

theorem Holds.row {K : Nat → Prop} {a w : World} (h : Holds K a w) (g : Nat) (hg : ¬ K g) (cs : Array Value) : Holds K a (w.setRow g cs) :=
  h.trans ⟨rfl, rfl, rfl, by simp, fun k _ hk => setRow_other w g k cs (fun e => hg (e ▸ hk))⟩
/-- A result that lies in a cell. -/
theorem results_cell_one {P : Program} {fn : Func} {p : Tmp} {ty : TypeId} (hr : fn.results = #[.cell p ty]) (tmps : Array Value) (w : World) (a : Addr) (v : Value) (hp : tmps.getD p undef = .pointer (some a))
    (hagg : (isAgg ty).run P w = .ok false w) (hc : w.cell? a = some v) : (results fn tmps).run P w = .ok v w := by
  have hp' : tmps[p]?.getD undef = .pointer (some a) := by simpa using hp
  simp [results, hr, hp', asAddr, loadVar, Sem.run_bind, hagg, load, Sem.run, hc, Result.andThen]

/-- Marks of loops over functions that have ended. -/
def mk1 (D : Nat) : Deferred := { target := .collected D, args := #[] }
theorem leaves_marks {F : Fence} {n : Nat} {P : Program} {fn : Func} {tmps : Array Value} {R : Ending → World → Prop} : ∀ (Ds : List Nat) (W : World), Ds.Nodup → (∀ D ∈ Ds, W.heap[D]? = some (.deferred (some []))) →
    (∀ W', Holds (fun r => r ∉ Ds) W W' → ∃ v, (results fn tmps).run P W' = .ok v W' ∧ R (.returned v) W') → LeavesInM F n P fn tmps R (Ds.map mk1) .returning W
  | [], W, _, _, h => by
    obtain ⟨v, h1, h2⟩ := h W (Holds.refl _ _)
    exact ⟨v, h1, h2⟩
  | D :: Ds, W, hn, hd, h => by
    have hD := hd D (by simp)
    rw [List.nodup_cons] at hn
    refine ⟨by simp, .inl ⟨D, _, rfl, run_takeDeferred hD, ?_⟩⟩
    refine leaves_marks Ds _ hn.2 (fun E hE => ?_) (fun W' hh => h W' ?_)
    · exact (World.putObj_heap_other (fun e => hn.1 (by rw [← e]; exact hE))).trans (hd E (by simp [hE]))
    · exact ((Holds.refl _ W).put D (by simp) _).trans (hh.mono (fun r _ h => fun hr => h (by simp [hr])))

/-- A step from an earlier column to the last one is there before. -/
def sameStep (l : List Int) (f t : Nat) (x : Nat × Nat) : Bool := decide (stp1 l x.1 x.2 = stp1 l f t ∧ stp2 l x.1 x.2 = stp2 l f t)
def lastB (l : List Int) : Bool := (List.range (l.length - 1)).any fun f => (prs (l.length - 1)).any (sameStep l f (l.length - 1))

theorem nth_take (l : List Int) (m k : Nat) (h : k < m) : nth (l.take m) k = nth l k := by simp [nth, h]
theorem low_take (l : List Int) (hl : low l) (m : Nat) : low (l.take m) := by
  intro k
  by_cases h : k < m
  · rw [nth_take l m k h]; exact hl k
  · have : nth (l.take m) k = 0 := by
      unfold nth; rw [List.getElem?_eq_none (Nat.le_trans (List.length_take_le _ _) (by omega))]; rfl
    rw [this]; decide
theorem stp2_take (l : List Int) (m i j : Nat) (hi : i < m) (hj : j < m) : stp2 (l.take m) i j = stp2 l i j := by
  unfold stp2; rw [nth_take l m i hi, nth_take l m j hj]
theorem RdI_take {w : World} {A : Option Addr} {c : Nat} {l : List Int} {m : Nat} (h : RdI w (.slice A l.length c) l) (hm : m ≤ l.length) : RdI w (.slice A m c) (l.take m) := by
  obtain ⟨A', c', hv, hm', hc⟩ := h
  cases hv
  have hl : (l.take m).length = m := by simp; omega
  refine ⟨A, c, by rw [hl], by rw [hl]; omega, fun k hk => ?_⟩
  rw [hl] at hk
  obtain ⟨b, off, u, h1, h2, h3⟩ := hc k (by omega)
  exact ⟨b, off, u, h1, h2, by show u = _; rw [nth_take l m k hk]; exact h3⟩
set_option maxHeartbeats 4000000 in
set_option maxRecDepth 100000 in
theorem lastRepeats_c (A : Option Addr) (c : Nat) (l : List Int) (hl : low l) (h1 : 1 ≤ l.length) (w : World) (hcap : l.length ≤ c) (hv : RdI w (.slice A l.length c) l) :
    Calls Try.prog 30 #[.slice A l.length c] w fun e w' => e = .returned (.bool (lastB l)) ∧ Keeps w w' := by
  have hm : l.length ≤ 9223372036854775807 := by obtain ⟨_, _, _, h, _⟩ := id hv; unfold maxLen at h; omega
  refine (callsIn_wide (n := 5)).1 ?_
  refine callsIn_of_wp_marks Try.func30 rfl trivial ?_ rfl
  simp only [Try.ntmps30, List.size_toArray, List.length_cons, List.length_nil, Nat.reduceAdd, Nat.reduceSub, Array.replicate_succ, Array.replicate_zero, List.push_toArray, List.append_toArray, List.nil_append, List.cons_append]
  gi_wp2_with fail
  obtain ⟨la, hla⟩ : ∃ la, l.length - 1 = la := ⟨_, rfl⟩
  have hlaI : (l.length : Int) - 1 = la := by omega
  have hb0 : lastB l = (List.range la).any fun f => (prs la).any (sameStep l f la) := by rw [lastB, hla]
  have Hb0 := Lib.hid hb0
  have HlaI := Lib.hid hlaI
  have hll : la < l.length := by omega
  rw [hlaI]
  clear hlaI hb0
  refine wpIn_loop (fun a W => ∃ (f : Nat) (Ds : List Nat) (u4 u5 u13 u14 u15 u16 u17 u18 u19 u20 u21 u22 u23 u29 : Value), f ≤ la ∧ (∀ g, g < f → (prs la).any (sameStep l g la) = false) ∧ Ds.Nodup ∧ (∀ D ∈ Ds, w.heap.size < D ∧ W.heap[D]? = some (.deferred (some []))) ∧ At W w.heap.size 4 #[.bool false] ∧ Keeps w W ∧
    a = { tmps := #[.slice A l.length c, undef, .pointer (some ⟨w.heap.size, 0, none⟩), .int .i64 la, u4, u5, undef, undef, .slice A l.length c, .int .i64 l.length, .int .i64 la, .int .i64 la, .int .i64 f, u13, u14, u15, u16, u17, u18, u19, u20, u21, u22, u23, undef, undef, undef, undef, undef, u29], defers := Ds.map mk1 })
    (fun a _ => la - (intOf (a.tmps.getD 12 undef)).toNat) ?_ ?_
  · exact ⟨0, [], _, _, _, _, _, _, _, _, _, _, _, _, _, _, Nat.zero_le _, fun g h => by omega, List.nodup_nil, fun D h => (by cases h), At.new w _ _, Keeps.alloc (Below.refl _ _) _, rfl⟩
  rintro a W ⟨f, Ds, u4, u5, u13, u14, u15, u16, u17, u18, u19, u20, u21, u22, u23, u29, hf, hno, hnd, hD, hat, hk, rfl⟩
  have hvW := hv.below hk
  have Hno := Lib.hid hno
  clear hno
  by_cases hlt : f < la
  · have hst := fun x hx => stepOf_c (.slice A l.length c) l hl f la (by omega) hll x hx
    gi_wp2_with fail
    refine ⟨trivial, (callsIn_wide.2 (hst _ hvW)).mono ?_⟩
    rintro e w1 ⟨rfl, hb1⟩
    gi_wp2_with (refine in_store_row rfl 52 _ _ rfl w1.heap.size (ic [stp1 l f la, stp2 l f la]) rfl rfl 52 (ic [0, 0]) (At.new w1 52 _) (sizeSt _ _) rfl (ic_one _) ?_)
    refine ⟨trivial, (callsIn_wide.2 (steps_c A la c _)).mono ?_⟩
    rintro e w2 ⟨rfl, rfl⟩
    gi_wp2_with fail
    have hkX : Keeps W ((w1.alloc (.cells #[.int .i64 0, .int .i64 0] 52)).setRow w1.heap.size (ic [stp1 l f la, stp2 l f la])) := below_row (Keeps.alloc hb1 _) hb1.size _
    have hsX := (At.new w1 52 (ic [0, 0])).row (ic [stp1 l f la, stp2 l f la])
    obtain ⟨X, hX⟩ : ∃ X, (w1.alloc (.cells #[.int .i64 0, .int .i64 0] 52)).setRow w1.heap.size (ic [stp1 l f la, stp2 l f la]) = X := ⟨_, rfl⟩
    have hsX2 : At X w1.heap.size 52 (ic [stp1 l f la, stp2 l f la]) := by rw [← hX]; exact hsX
    have hkX2 : Keeps W X := by rw [← hX]; exact hkX
    have hXs : X.heap.size = w1.heap.size + 1 := by rw [← hX]; simp
    rw [hX]
    clear hsX hkX
    obtain ⟨Y, hY⟩ : ∃ Y, X.alloc (.cells #[.slice A la c] 22) = Y := ⟨_, rfl⟩
    have hYs : Y.heap.size = (w1.heap.size + 1) + 1 := by rw [← hY]; simp [hXs]
    have hkY : Keeps W Y := by rw [← hY]; exact Keeps.alloc hkX2 _
    have hbY : At Y (w1.heap.size + 1) 22 #[.slice A la c] := by rw [← hY]; exact At.new' X _ hXs.symm _ _
    have hsY : At Y w1.heap.size 52 (ic [stp1 l f la, stp2 l f la]) := by rw [← hY]; exact hsX2.alloc _
    have hwlt := hsX2.lt
    have hWw1 := hb1.size
    have hwW := hk.size
    have hatlt := hat.lt
    rw [hY]
    clear hY hX hsX2 hkX2 hXs
    have hDlt : ∀ D ∈ Ds, D < W.heap.size := fun D h => (Array.getElem?_eq_some_iff.1 (hD D h).2).1
    have hlt' : (l.take la).length = la := by simp; omega
    have hvY : RdI Y (.slice A la c) (l.take la) := RdI_take (hvW.below hkY) (by omega)
    have hit := steps_iter A c (l.take la) (low_take l hl la) (w1.heap.size + 1) (fun r => r < w.heap.size ∨ r = (w1.heap.size + 1)) (.inr rfl) Y (fun r h => by omega) (by rw [hlt']; exact hbY)
      (fun X' hh => by rw [hlt']; exact RdI_take (hv.below (((Holds.of_below (Keeps.next hk hkY)).trans2 hh (fun r _ h => .inl h)).below (Nat.le_refl _))) (by omega))
    rw [hlt'] at hit
    have Hno2 := Hno
    refine range_mine (prs la) (gf := 33) (lb := #[.pointer (some ⟨(w1.heap.size + 1), 0, none⟩)]) rfl (enters_of Try.func33 (by kernel_rfl) rfl)
      hit (fun _ _ => rfl) (fun r h => by omega) (fun _ _ _ _ _ _ => trivial)
      (fun k _ Z => (∀ i x, i < k → (prs la)[i]? = some x → sameStep l f la x = false) ∧ At Z w.heap.size 4 #[.bool false] ∧ At Z w1.heap.size 52 (ic [stp1 l f la, stp2 l f la]) ∧ Keeps w Z ∧ (∀ D ∈ Ds, Z.heap[D]? = some (.deferred (some []))))
      (fun k _ Z => (prs la).any (sameStep l f la) = true ∧ At Z w.heap.size 4 #[.bool true] ∧ Keeps w Z ∧ (∀ D ∈ Ds, Z.heap[D]? = some (.deferred (some []))))
      (fun k M Z Z' h hh => ⟨h.1, h.2.1.holds hh (.inl (by omega)), h.2.2.1.holds hh (.inl (by omega)), ((Holds.of_below h.2.2.2.1).trans2 hh (fun r _ h => .inl (by omega))).below (Nat.le_refl _), fun D hDs => (hh.block D (Array.getElem?_eq_some_iff.1 (h.2.2.2.2 D hDs)).1 (.inl (by have := hDlt D hDs; have := hkY.size; omega))).trans (h.2.2.2.2 D hDs)⟩)
      (fun k M Z Z' h hh => ⟨h.1, h.2.1.holds hh (.inl (by omega)), ((Holds.of_below h.2.2.1).trans2 hh (fun r _ h => .inl (by omega))).below (Nat.le_refl _), fun D hDs => (hh.block D (Array.getElem?_eq_some_iff.1 (h.2.2.2 D hDs)).1 (.inl (by have := hDlt D hDs; have := hkY.size; omega))).trans (h.2.2.2 D hDs)⟩)
      ⟨fun i x h => by omega, hat.later hkY, hsY, Keeps.next hk hkY, fun D hDs => (hkY.block D (hDlt D hDs)).trans (hD D hDs).2⟩
      (fun x a' Z => ∃ b7, Y.heap.size + 2 ≤ b7 ∧ At Z b7 52 (ic [stp1 l x.1 x.2, stp2 l x.1 x.2]) ∧ a' = { tmps := #[.slice A l.length c, undef, .pointer (some ⟨w.heap.size, 0, none⟩), .int .i64 la, .int .i64 f, .pointer (some ⟨w1.heap.size, 0, none⟩), undef, .pointer (some ⟨b7, 0, none⟩), .slice A l.length c, .int .i64 l.length, .int .i64 la, .int .i64 la, .int .i64 f, .bool true, .int .i64 f,
        .slice A l.length c, .int .i64 f, .int .i64 la, .agg #[.int .i64 f, .int .i64 la], .agg #[.int .i64 (stp1 l f la), .int .i64 (stp2 l f la)], .slice A l.length c, .int .i64 la, .slice A la c, .func (.func 33) #[] #[.pointer (some ⟨(w1.heap.size + 1), 0, none⟩)],
        .agg #[.int .i64 x.1, .int .i64 x.2], .agg #[.int .i64 (stp1 l x.1 x.2), .int .i64 (stp2 l x.1 x.2)], undef, undef, undef, u29], defers := [] })
      (fun x a Z Z' hh ⟨b7, h1, h2, h3⟩ => ⟨b7, h1, h2.holds hh (by omega), h3⟩) ?assign ?body ?done ?stop
    case assign =>
      intro l' j x M1 Z hx _ _ hsz
      have hxm := prs_mem la x (List.mem_of_getElem? hx)
      have he := stp2_take l la x.1 x.2 (by omega) (by omega)
      simp only [encS]
      rw [he, show stp1 (l.take la) x.1 x.2 = stp1 l x.1 x.2 from rfl]
      have HYs := Lib.hid hYs
      have Hx := Lib.hid hx
      clear hYs hx he
      gi_wp2_with (refine in_store_row rfl 52 _ _ rfl Z.heap.size (ic [stp1 l x.1 x.2, stp2 l x.1 x.2]) rfl rfl 52 (ic [0, 0]) (At.new Z 52 _) (sizeSt _ _) rfl (ic_one _) ?_)
      refine ⟨Holds.mono (Holds.row (K := fun r => r ≠ Z.heap.size) ((Holds.refl _ Z).alloc _) _ (by simp) _) (fun r hr _ => by omega), Z.heap.size, hsz, (At.new Z 52 (ic [0, 0])).row _, rfl⟩
    case body =>
      rintro l' j x M1 a' Z hx ⟨hno1, hrb, hsb, hbel, hDs⟩ hM1 hKin _ ⟨b7, hb7, hw7, rfl⟩ hsz
      have HYs := Lib.hid hYs
      have Hx := Lib.hid hx
      have Hno1 := Lib.hid hno1
      have HDs := Lib.hid hDs
      clear hYs hx hno1 hDs
      have Hxk : Hid ((prs la)[j]? = some x) := Hx
      by_cases e1 : stp1 l x.1 x.2 = stp1 l f la
      · by_cases e2 : stp2 l x.1 x.2 = stp2 l f la
        · have b1 : (stp1 l x.1 x.2 == stp1 l f la) = true := by simp [e1]
          have b2 : (stp2 l x.1 x.2 == stp2 l f la) = true := by simp [e2]
          have Hs : Hid (sameStep l f la x = true) := Lib.hid (by simp [sameStep, e1, e2])
          have fr := hrb.frozen 0
          have cr := hrb.cell 0
          simp only [List.getElem?_toArray, List.getElem?_cons_zero] at cr
          clear e1 e2
          gi_wp2_with (first | refine in_load_row rfl 52 _ rfl b7 rfl 52 #[.int .i64 (stp1 l x.1 x.2), .int .i64 (stp2 l x.1 x.2)] _ hw7 Try.underlying52 rfl (sizeSt _ _) ?_ | refine in_load_row rfl 52 _ rfl w1.heap.size rfl 52 #[.int .i64 (stp1 l f la), .int .i64 (stp2 l f la)] _ hsb Try.underlying52 rfl (sizeSt _ _) ?_)
          have hYs := HYs.out
          have hkY2 := hkY.size
          refine ⟨M1, fun r hr => Nat.lt_of_lt_of_le (hM1 r hr).2 (by simp [World.setCell]), fun r h => .inl h, (Holds.refl _ Z).set _ (by simp; omega) _, ?_, hrb.set 0 _, hbel.setCell (by simp) _, fun D hDs => ?_⟩
          · exact List.any_eq_true.2 ⟨x, List.mem_of_getElem? Hx.out, Hs.out⟩
          · exact (heap_setCell_other Z _ _ _ (by have := (hD D hDs).1; simp; omega)).trans (HDs.out D hDs)
        · have b1 : (stp1 l x.1 x.2 == stp1 l f la) = true := by simp [e1]
          have b2 : (stp2 l x.1 x.2 == stp2 l f la) = false := by simp [e2]
          have Hs : Hid (sameStep l f la x = false) := Lib.hid (by simp [sameStep, e2])
          clear e1 e2
          gi_wp2_with (first | refine in_load_row rfl 52 _ rfl b7 rfl 52 #[.int .i64 (stp1 l x.1 x.2), .int .i64 (stp2 l x.1 x.2)] _ hw7 Try.underlying52 rfl (sizeSt _ _) ?_ | refine in_load_row rfl 52 _ rfl w1.heap.size rfl 52 #[.int .i64 (stp1 l f la), .int .i64 (stp2 l f la)] _ hsb Try.underlying52 rfl (sizeSt _ _) ?_)
          exact ⟨M1, fun r hr => (hM1 r hr).2, fun r h => .inl h, Holds.refl _ Z, fun i y hi hy => (by
            by_cases h : i < j
            · exact Hno1.out i y h hy
            · obtain rfl : i = j := by omega
              rw [Hx.out] at hy; cases hy; exact Hs.out), hrb, hsb, hbel, HDs.out⟩
      · have b1 : (stp1 l x.1 x.2 == stp1 l f la) = false := by simp [e1]
        have Hs : Hid (sameStep l f la x = false) := Lib.hid (by simp [sameStep, e1])
        clear e1
        gi_wp2_with (first | refine in_load_row rfl 52 _ rfl b7 rfl 52 #[.int .i64 (stp1 l x.1 x.2), .int .i64 (stp2 l x.1 x.2)] _ hw7 Try.underlying52 rfl (sizeSt _ _) ?_ | refine in_load_row rfl 52 _ rfl w1.heap.size rfl 52 #[.int .i64 (stp1 l f la), .int .i64 (stp2 l f la)] _ hsb Try.underlying52 rfl (sizeSt _ _) ?_)
        exact ⟨M1, fun r hr => (hM1 r hr).2, fun r h => .inl h, Holds.refl _ Z, fun i y hi hy => (by
          by_cases h : i < j
          · exact Hno1.out i y h hy
          · obtain rfl : i = j := by omega
            rw [Hx.out] at hy; cases hy; exact Hs.out), hrb, hsb, hbel, HDs.out⟩
    case done =>
      rintro M1 Z ⟨hno1, hrb, hsb, hbel, hDs⟩ hK hM1
      have HYs := Lib.hid hYs
      have HK := Lib.hid hK
      have Hno1 := Lib.hid hno1
      have HDs := Lib.hid hDs
      clear hYs hK hno1 hDs
      gi_wp2_with fail
      have hkY2 := hkY.size
      refine ⟨⟨f + 1, Y.heap.size :: Ds, _, _, _, _, _, _, _, _, _, _, _, _, _, _, by omega, fun g hg => ?_, List.nodup_cons.2 ⟨fun h => by have := hDlt _ h; omega, hnd⟩, fun D h => ?_, hrb, hbel, rfl⟩, ?_⟩
      · by_cases h : g < f
        · exact Hno.out g h
        · obtain rfl : g = f := by omega
          rw [List.any_eq_false]
          intro x hx
          obtain ⟨i, hi, rfl⟩ := List.getElem_of_mem hx
          simp [Hno1.out i _ hi (List.getElem?_eq_getElem hi)]
      · rcases List.mem_cons.1 h with rfl | h
        · exact ⟨by omega, HK.out⟩
        · exact ⟨(hD D h).1, HDs.out D h⟩
      · simp [intOf]; omega
    case stop =>
      rintro k M1 Z ⟨hany, hrb, hbel, hDs⟩ hK hM1
      have HYs := Lib.hid hYs
      have HK := Lib.hid hK
      have Hany := Lib.hid hany
      have HDs := Lib.hid hDs
      clear hYs hK hany hDs
      gi_wp2_with fail
      have hkY2 := hkY.size
      refine leaves_marks (Y.heap.size :: Ds) Z (List.nodup_cons.2 ⟨fun h => by have := hDlt _ h; omega, hnd⟩) (fun D h => ?_) (fun W' hh => ⟨.bool true, ?_, ?_, ?_⟩)
      · rcases List.mem_cons.1 h with rfl | h
        · exact HK.out
        · exact HDs.out D h
      · have := (hrb.holds hh (fun h => by
          rcases List.mem_cons.1 h with h | h
          · omega
          · have := (hD _ h).1; omega)).cell 0
        exact results_cell_one Try.results30 _ _ ⟨w.heap.size, 0, none⟩ _ rfl (Try.isAgg4 _) this
      · rw [Hb0.out]
        congr 2
        exact (List.any_eq_true.2 ⟨f, by simp; omega, Hany.out⟩).symm
      · exact ((Holds.of_below hbel).trans2 hh (fun r _ h hr => by
          rcases List.mem_cons.1 hr with hr | hr
          · omega
          · have := (hD _ hr).1; omega)).below (Nat.le_refl _)
  · have hfe : f = la := by omega
    have fr := hat.frozen 0
    have cr := hat.cell 0
    simp only [List.getElem?_toArray, List.getElem?_cons_zero] at cr
    have Hfe := Lib.hid hfe
    have HD := Lib.hid hD
    clear hfe hD
    gi_wp2_with fail
    have hset := hat.set 0 (.bool false)
    refine leaves_marks Ds _ hnd (fun D h => ?_) (fun W' hh => ⟨.bool false, ?_, ?_, ?_⟩)
    · exact (heap_setCell_other W _ _ _ (by have := (HD.out D h).1; simp; omega)).trans (HD.out D h).2
    · have := (hset.holds hh (fun h => by have := (HD.out _ h).1; omega)).cell 0
      exact results_cell_one Try.results30 _ _ ⟨w.heap.size, 0, none⟩ _ rfl (Try.isAgg4 _) this
    · rw [Hb0.out]
      congr 2
      symm
      rw [List.any_eq_false]
      intro g hg
      have := Hno.out g (by have := List.mem_range.1 hg; have := Hfe.out; omega)
      simp [this]
    · exact ((Holds.of_below (hk.setCell (by simp) _)).trans2 hh (fun r _ h hr => by have := (HD.out _ hr).1; omega)).below (Nat.le_refl _)

/-- No step is there twice. -/
def clearB (l : List Int) : Bool := (List.range l.length).all fun k => !lastB (l.take (k + 1))
set_option maxHeartbeats 1000000 in
theorem isClear_c (A : Option Addr) (c : Nat) (l : List Int) (hl : low l) (w : World) (hcap : l.length ≤ c) (hv : RdI w (.slice A l.length c) l) :
    Calls Try.prog 21 #[.slice A l.length c] w fun e w' => e = .returned (.bool (clearB l)) ∧ Keeps w w' := by
  have hm : l.length ≤ 9223372036854775807 := by obtain ⟨_, _, _, h, _⟩ := id hv; unfold maxLen at h; omega
  go_enter Try.func21, Try.ntmps21
  go_wp2_with fail
  go_loopw [6] (fun i wr => ∃ k : Nat, k ≤ l.length ∧ i = .int .i64 k ∧ (∀ j, j < k → lastB (l.take (j + 1)) = false) ∧ Keeps w wr) (fun i _ => l.length - (intOf i).toNat)
  case atStart => exact ⟨0, Nat.zero_le _, rfl, fun j h => by omega, Below.refl _ _⟩
  case round =>
    obtain ⟨k, hk, rfl, hno, hb⟩ := hrel
    have Hno := Lib.hid hno
    clear hno
    by_cases hlt : k < l.length
    · have hlen : (l.take (k + 1)).length = k + 1 := by simp; omega
      have hlr := fun x hx => lastRepeats_c A c (l.take (k + 1)) (low_take l hl _) (by omega) x (by omega) hx
      rw [hlen] at hlr
      have hvw := RdI_take (m := k + 1) (hv.below hb) (by omega)
      have hkc : (k : Int) + 1 ≤ c := by omega
      clear hlen
      by_cases hB : lastB (l.take (k + 1)) = true
      · rw [hB] at hlr
        have HB := Lib.hid hB
        clear hB
        go_wp2_with (go_at_call 30; refine (hlr _ hvw).mono ?_; rintro e w1 ⟨rfl, hb1⟩)
        go_ret
        refine ⟨ret_bool ?_, Keeps.next hb hb1⟩
        symm
        rw [clearB, List.all_eq_false]
        exact ⟨k, by simpa using hlt, by simp [HB.out]⟩
      · have hB' : lastB (l.take (k + 1)) = false := by simpa using hB
        rw [hB'] at hlr
        have HB := Lib.hid hB'
        clear hB hB'
        go_wp2_with (go_at_call 30; refine (hlr _ hvw).mono ?_; rintro e w1 ⟨rfl, hb1⟩)
        go_roundw
        case rel => exact ⟨k + 1, by omega, by go_num, fun j hj => (by
          by_cases h : j < k
          · exact Hno.out j h
          · obtain rfl : j = k := by omega
            exact HB.out), Keeps.next hb hb1⟩
        case measure => simp [intOf]; omega
    · have hke : k = l.length := by omega
      have Hke := Lib.hid hke
      clear hke
      go_wp2_with fail
      go_ret
      refine ⟨ret_bool ?_, hb⟩
      symm
      rw [clearB, List.all_eq_true]
      intro j hj
      simp [Hno.out j (by have := List.mem_range.1 hj; have := Hke.out; omega)]
end Go.Proofs.Ytdploccpobpjjaa
