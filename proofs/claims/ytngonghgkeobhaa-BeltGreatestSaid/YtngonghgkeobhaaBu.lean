/- The walk of Odd. -/
import Derived.Test.YtngonghgkeobhaaBt
import Derived.Test.YtngonghgkeobhaaBo
namespace Go.Proofs.Ytngonghgkeobhaa
open Go.RowKit Go.Shelf
set_option linter.unusedVariables false
set_option linter.unusedSimpArgs false
attribute [local go_sem] Oper.semAt_some

/-- Marks of loops over functions that have ended. -/
def mk1 (D : Nat) : Deferred := { target := .collected D, args := #[] }
theorem leaves_marks {F : Fence} {n : Nat} {P : Program} {fn : Func} {tmps : Array Value} {R : Ending → World → Prop} : ∀ (Ds : List Nat) (W : World), Ds.Nodup → (∀ D ∈ Ds, W.heap[D]? = some (.deferred (some []))) →
    (∀ W', Holds (fun r => r ∉ Ds) W W' → ∃ v, (results fn tmps).run P W' = .ok v W' ∧ R (.returned v) W') → LeavesInM F n P fn tmps R (Ds.map mk1) .returning W
  | [], W, _, _, h => by
    obtain ⟨v, h1, h2⟩ := h W (Holds.refl _ _)
    exact ⟨v, h1, h2⟩
  | D :: Ds, W, hn, hd, h => by
    have hD := hd D (by simp)
    rw [List.nodup_cons] at hn
    refine ⟨by simp, .inl ⟨D, _, rfl, run_takeDeferred hD, ?_⟩⟩
    refine leaves_marks Ds _ hn.2 (fun E hE => ?_) (fun W' hh => h W' ?_)
    · exact (World.putObj_heap_other (fun e => hn.1 (by rw [← e]; exact hE))).trans (hd E (by simp [hE]))
    · exact ((Holds.refl _ W).put D (by simp) _).trans (hh.mono (fun r _ h => fun hr => h (by simp [hr])))

theorem Holds.row {K : Nat → Prop} {a w : World} (h : Holds K a w) (g : Nat) (hg : ¬ K g) (cs : Array Value) : Holds K a (w.setRow g cs) :=
  h.trans ⟨rfl, rfl, rfl, by simp, fun k _ hk => setRow_other w g k cs (fun e => hg (e ▸ hk))⟩
theorem Odd_no (n : Int) (v : Value) (l : List Ed) (hg : graphB n l = false) (w : World) (hv : RdE w v l) :
    Calls Try.prog 30 #[.int .i64 n, v] w fun e w' => e = .returned (.tuple #[.slice none 0 0, .int .i64 2]) ∧ Keeps w w' := by
  have hng := newGraph_no n v l hg w hv
  go_enter Try.func30, Try.ntmps30
  go_wp2_with fail
  refine wp_scope_straight ?_
  go_wp2_with (go_at_call 33; refine hng.mono ?_; rintro e w1 ⟨rfl, hb1⟩)
  exact (show bodyPost Try.prog Try.f30 (fun e w' => e = Ending.returned (.tuple #[.slice none 0 0, .int .i64 2]) ∧ Keeps w w') Exit.ret _ _ from bodyPost_ret (results_tmp2 Try.results30 _ _ _) rfl ⟨rfl, hb1⟩)
/-- The first odd cycle of the shortest length from lg on. -/
def fstO (n : Nat) (jt : List Int) : Nat → Nat → Option (List Nat × Nat)
  | 0, _ => none
  | f + 1, lg => if lg ≤ n then (ocA n jt lg n).head?.orElse fun _ => fstO n jt f (lg + 2) else none
set_option maxHeartbeats 4000000 in
set_option maxRecDepth 100000 in
theorem Odd_yes (d : Nat) (v : Value) (l : List Ed) (hg : graphB (d + 1 : Nat) l = true) (w : World) (hv : RdE w v l) (hcut : (prp d).find? (fun s => cutB s l) = none) (x : List Nat × Nat) (hx : fstO (d + 1) (jK l l.length) 20 3 = some x) (hx1 : 1 ≤ x.1.length) (hx12 : x.1.length ≤ 12) :
    Calls Try.prog 30 #[.int .i64 (d + 1 : Nat), v] w fun e w' => ∃ b c, e = .returned (.tuple #[.slice (some ⟨b, 0, none⟩) x.1.length c, .int .i64 0]) ∧ RdI w' (.slice (some ⟨b, 0, none⟩) x.1.length c) (castL x.1) ∧ Keeps w w' := by
  have hng := newGraph_yes (d + 1 : Nat) v l hg w hv
  have hE := graphB_edges hg
  have hn := graphB_n hg
  have hl40 : l.length ≤ 64 := by
    unfold graphB at hg
    simp only [Bool.and_eq_true, decide_eq_true_eq] at hg
    omega
  have hjt := jok_jK l l.length hl40
  generalize jK l l.length = jt at *
  clear hg hl40
  refine (callsIn_wide (n := 5)).1 ?_
  refine callsIn_of_wp_marks Try.func30 rfl trivial ?_ rfl
  simp only [Try.ntmps30, List.size_toArray, List.length_cons, List.length_nil, Nat.reduceAdd, Nat.reduceSub, Array.replicate_succ, Array.replicate_zero, List.push_toArray, List.append_toArray, List.nil_append, List.cons_append]
  gi_wp2_with fail
  refine wpIn_wide.2 (wp_scope_straight ((wpIn_wide (n := 5)).1 ?_))
  gi_wp2_with fail
  refine ⟨trivial, (callsIn_wide.2 hng).mono ?_⟩
  rintro e w1 ⟨B, rfl, hB0, hB, hb1⟩
  have hcu := fun X (hX : Keeps w1 X) => cutter_c d (by omega) B v jt l hE X (by have := hB.later hX; rwa [Int.natCast_add] at this) ((hv.below hb1).below hX)
  rw [hcut] at hcu
  clear hng
  gi_wp2_with fail
  refine ⟨trivial, (callsIn_wide.2 (hcu _ (Below.refl _ _))).mono ?_⟩
  rintro e w2 ⟨(⟨-, rfl⟩ | ⟨_, h, _⟩), hb2⟩
  case inr => cases h
  clear hcu hcut
  gi_wp2_with fail
  refine wpIn_label ?_
  gi_wp2_with fail
  have hz13 : (ic (cyc []) : Array Value) = #[.int .i64 0, .int .i64 0, .int .i64 0, .int .i64 0, .int .i64 0, .int .i64 0, .int .i64 0, .int .i64 0, .int .i64 0, .int .i64 0, .int .i64 0, .int .i64 0, .int .i64 0] := rfl
  have hc2 := cyc_length [] (by decide)
  have hB2 := (hB.later hb2).lt
  have hwl := hb1.size
  have hwl2 := hb2.size
  have hdn : d + 1 ≤ 12 := by omega
  refine wpIn_loop (fun a W => ∃ (lg f : Nat) (Ds : List Nat) (u12 u27 u28 u29 u30 u31 u32 u33 u34 : Value), fstO (d + 1) jt f lg = some x ∧ lg + 2 * f = 43 ∧ Ds.Nodup ∧ (∀ D ∈ Ds, w2.heap.size < D ∧ W.heap[D]? = some (.deferred (some []))) ∧ At W w2.heap.size 92 (ic (cyc [])) ∧ At W B 103 (gc ((d + 1 : Nat) : Int) v jt) ∧ Keeps w2 W ∧
    a = { tmps := #[.int .i64 ((d : Int) + 1), v, undef, undef, .slice none 0 0, .int .i64 0, .pointer (some ⟨B, 0, none⟩), .bool true, .int .u16 0, .bool false, .pointer (some ⟨w2.heap.size, 0, none⟩), .int .i64 lg, u12, .tuple #[.pointer (some ⟨B, 0, none⟩), .bool true], .int .i64 ((d : Int) + 1), v, .tuple #[.pointer (some ⟨B, 0, none⟩), .bool true], .pointer (some ⟨B, 0, none⟩), .bool true, .bool true, .bool false, .tuple #[.int .u16 0, .bool false], .pointer (some ⟨B, 0, none⟩), .tuple #[.int .u16 0, .bool false], .int .u16 0, .bool false, .bool false, u27, u28, u29, u30, u31, u32, u33, u34, undef, undef, undef, undef, undef], defers := Ds.map mk1 })
    (fun a _ => 43 - (intOf (a.tmps.getD 11 undef)).toNat) ?_ ?_
  · refine ⟨3, 20, [], _, _, _, _, _, _, _, _, _, hx, rfl, List.nodup_nil, fun D h => (by cases h), ?_, ?_, Keeps.alloc (Below.refl _ _) _, rfl⟩
    · rw [hz13]; exact At.new w2 _ _
    · exact (hB.later hb2).alloc _
  rintro a W ⟨lg, f, Ds, u12, u27, u28, u29, u30, u31, u32, u33, u34, hfx, hlf, hnd, hD, hbs, hG, hk, rfl⟩
  obtain ⟨f, rfl⟩ : ∃ g, f = g + 1 := by cases f with | zero => cases hfx | succ g => exact ⟨g, rfl⟩
  have hlg : lg ≤ d + 1 := by
    unfold fstO at hfx
    by_cases h : lg ≤ d + 1
    · exact h
    · rw [if_neg h] at hfx; cases hfx
  unfold fstO at hfx
  rw [if_pos hlg] at hfx
  have Hfx := Lib.hid hfx
  clear hfx hx
  have hlgI : (lg : Int) ≤ (d : Int) + 1 := by omega
  have hwW := hk.size
  gi_wp2_with fail
  refine ⟨trivial, (callsIn_wide.2 (oddCycles_c B lg _)).mono ?_⟩
  rintro e Y ⟨rfl, hY⟩
  have hkY : Keeps W Y := by rw [← hY]; exact Keeps.alloc (Keeps.alloc (Below.refl _ _) _) _
  have hYs : Y.heap.size = W.heap.size + 2 := by rw [← hY]; simp
  have hgY : At Y W.heap.size 58 #[.pointer (some ⟨B, 0, none⟩)] := by rw [← hY]; exact (At.new W _ _).alloc _
  have hlY : At Y (W.heap.size + 1) 3 #[.int .i64 lg] := by rw [← hY]; exact At.new2 W _ _ _
  clear hY
  gi_wp2_with fail
  have hDlt : ∀ D ∈ Ds, D < W.heap.size := fun D h => (Array.getElem?_eq_some_iff.1 (hD D h).2).1
  have hfirst0 : ∀ y, (ocA (d + 1) jt lg (d + 1))[0]? = some y → y = x := fun y hy => by
    have := Hfx.out
    rw [List.head?_eq_getElem?, hy] at this
    exact Option.some.inj this
  have hit := odd_iter (d + 1) lg W.heap.size (W.heap.size + 1) B v jt hdn hjt (fun r => r = W.heap.size ∨ r = W.heap.size + 1 ∨ r = B) (.inl rfl) (.inr (.inr rfl)) (.inr (.inl rfl)) Y (fun r h => by omega) hgY (hG.later hkY) hlY
  obtain ⟨xs, hxs⟩ : ∃ xs, ocA (d + 1) jt lg (d + 1) = xs := ⟨_, rfl⟩
  rw [hxs] at hit hfirst0
  have hfirst := hfirst0
  have Hxs := Lib.hid hxs
  clear hxs
  refine range_brk 0 xs (gf := 63) (lb := #[.pointer (some ⟨W.heap.size, 0, none⟩), .pointer (some ⟨W.heap.size + 1, 0, none⟩)]) rfl (enters_of Try.func63 (by kernel_rfl) rfl)
    hit (fun _ _ => rfl) (fun r h => by omega) (fun _ _ _ _ _ _ => trivial)
    (fun k _ Z => k = 0 ∧ At Z w2.heap.size 92 (ic (cyc [])) ∧ At Z B 103 (gc ((d + 1 : Nat) : Int) v jt) ∧ Keeps w2 Z ∧ (∀ D ∈ Ds, Z.heap[D]? = some (.deferred (some []))))
    (fun _ _ Z => (∃ y, xs[0]? = some y ∧ At Z w2.heap.size 92 (ic (cyc y.1))) ∧ Keeps w2 Z ∧ (∀ D ∈ Ds, Z.heap[D]? = some (.deferred (some []))))
    (fun k M Z Z' h hh => ⟨h.1, h.2.1.holds hh (.inl (by omega)), h.2.2.1.holds hh (.inl (by omega)), ((Holds.of_below h.2.2.2.1).trans2 hh (fun r _ h => .inl (by omega))).below (Nat.le_refl _), fun D hDs => (hh.block D (Array.getElem?_eq_some_iff.1 (h.2.2.2.2 D hDs)).1 (.inl (by have := hDlt D hDs; omega))).trans (h.2.2.2.2 D hDs)⟩)
    (fun k M Z Z' h hh => ⟨(by obtain ⟨y, q1, q2⟩ := h.1; exact ⟨y, q1, q2.holds hh (.inl (by omega))⟩), ((Holds.of_below h.2.1).trans2 hh (fun r _ h => .inl (by omega))).below (Nat.le_refl _), fun D hDs => (hh.block D (Array.getElem?_eq_some_iff.1 (h.2.2 D hDs)).1 (.inl (by have := hDlt D hDs; omega))).trans (h.2.2 D hDs)⟩)
    ⟨rfl, hbs.later hkY, hG.later hkY, Keeps.next hk hkY, fun D hDs => (hkY.block D (hDlt D hDs)).trans (hD D hDs).2⟩
    (fun y a' Z => ∃ b12, Y.heap.size + 2 ≤ b12 ∧ At Z b12 92 (ic (cyc y.1)) ∧ a' = { tmps := #[.int .i64 ((d : Int) + 1), v, undef, undef, .slice none 0 0, .int .i64 0, .pointer (some ⟨B, 0, none⟩), .bool true, .int .u16 0, .bool false, .pointer (some ⟨w2.heap.size, 0, none⟩), .int .i64 lg, .pointer (some ⟨b12, 0, none⟩), .tuple #[.pointer (some ⟨B, 0, none⟩), .bool true], .int .i64 ((d : Int) + 1), v, .tuple #[.pointer (some ⟨B, 0, none⟩), .bool true], .pointer (some ⟨B, 0, none⟩), .bool true, .bool true, .bool false, .tuple #[.int .u16 0, .bool false], .pointer (some ⟨B, 0, none⟩), .tuple #[.int .u16 0, .bool false], .int .u16 0, .bool false, .bool false, .int .i64 lg, .int .i64 ((d : Int) + 1), .bool true, u30, u31, .pointer (some ⟨B, 0, none⟩), .int .i64 lg, .func (.func 63) #[] #[.pointer (some ⟨W.heap.size, 0, none⟩), .pointer (some ⟨W.heap.size + 1, 0, none⟩)], .agg (ic (cyc y.1)), .int .u64 y.2, undef, undef, undef], defers := [] })
    (fun y a Z Z' hh ⟨b12, h1, h2, h3⟩ => ⟨b12, h1, h2.holds hh (by omega), h3⟩) ?assign ?body ?done ?stop
  case assign =>
    intro l' j y M1 Z hy hI _ hsz
    obtain rfl := hI.1
    have hyx : y = x := hfirst y hy
    subst hyx
    simp only [encC]
    have HYs := Lib.hid hYs
    clear hYs hy hI
    gi_wp2_with (refine in_store_row rfl 92 _ _ rfl Z.heap.size (ic (cyc y.1)) rfl rfl 92 #[.int .i64 0, .int .i64 0, .int .i64 0, .int .i64 0, .int .i64 0, .int .i64 0, .int .i64 0, .int .i64 0, .int .i64 0, .int .i64 0, .int .i64 0, .int .i64 0, .int .i64 0] (At.new Z 92 _) (sizeC _ hx12) (by rw [ic_size, cyc_length _ hx12]; rfl) (ic_one _) ?_)
    exact ⟨Holds.mono (Holds.row (K := fun r => r < Z.heap.size) ((Holds.refl _ Z).alloc _) _ (by omega) _) (fun r hr _ => hr), Z.heap.size, hsz, (At.new Z 92 _).row _, rfl⟩
  case body =>
    rintro l' j y M1 a' Z hy ⟨rfl, hI2, hI3, hI4, hI5⟩ hM1 hKin _ ⟨b12, g12, h12, rfl⟩ hsz
    have hyx : y = x := hfirst y hy
    subst hyx
    have HYs := Lib.hid hYs
    have Hy := Lib.hid hy
    have hZs := hI4.size
    clear hYs hy
    gi_wp2_with (first
      | (refine in_load_row rfl 92 _ rfl b12 rfl 92 (ic (cyc y.1)) _ h12 Try.underlying92 rfl (sizeC _ hx12) ?_)
      | (refine in_store_row rfl 92 _ _ rfl w2.heap.size (ic (cyc y.1)) rfl rfl 92 (ic (cyc [])) hI2 (sizeC _ hx12) (by rw [ic_size, ic_size, cyc_length _ hx12, hc2]) (ic_one _) ?_))
    have hYs := HYs.out
    refine ⟨rfl, M1, fun r h => by simpa [World.setRow] using (hM1 r h).2, fun r h => .inl h, Holds.row (Holds.refl _ _) _ (fun h => ?_) _, ⟨y, Hy.out, hI2.row _⟩, below_row hI4 (Nat.le_refl _) _, fun D hDs => ?_⟩
    · have hbl := hbs.lt
      rcases h with (h | h | h) | ⟨h, -⟩ <;> omega
    · have := (hD D hDs).1
      exact (setRow_other Z _ D _ (by omega)).trans (hI5 D hDs)
  case done =>
    rintro M1 Z ⟨hl0, hI2, hI3, hI4, hI5⟩ hK hM1
    have hx0 : xs = [] := List.eq_nil_of_length_eq_zero hl0
    have hnx : fstO (d + 1) jt f (lg + 2) = some x := by
      have := Hfx.out
      rw [Hxs.out, hx0] at this
      exact this
    have Hnx := Lib.hid hnx
    have HYs := Lib.hid hYs
    have HK := Lib.hid hK
    clear hYs hK hnx
    have hl2w : IntKind.i64.wrap ((lg : Int) + 2) = ((lg + 2 : Nat) : Int) := by rw [IntWalk.i64_in _ (by omega)]; omega
    gi_wp2_with fail
    have hYs := HYs.out
    refine ⟨⟨lg + 2, f, Y.heap.size :: Ds, _, _, _, _, _, _, _, _, _, Hnx.out, by omega, List.nodup_cons.2 ⟨fun h => by have := hDlt _ h; omega, hnd⟩, fun D h => ?_, hI2, hI3, hI4, rfl⟩, ?_⟩
    · rcases List.mem_cons.1 h with rfl | h
      · exact ⟨by omega, HK.out⟩
      · exact ⟨(hD D h).1, hI5 D h⟩
    · simp [intOf]; omega
  case stop =>
    rintro k M1 Z ⟨⟨y, hy, hbs5⟩, hI4, hI5⟩ hK hM1
    have hyx : y = x := hfirst y hy
    subst hyx
    have HYs := Lib.hid hYs
    have HK := Lib.hid hK
    clear hYs hK hy
    gi_wp2_with (refine in_load_row rfl 92 _ rfl w2.heap.size rfl 92 (ic (cyc y.1)) _ hbs5 Try.underlying92 rfl (sizeC _ hx12) ?_)
    refine ⟨trivial, (callsIn_wide.2 (clist_c y.1 hx1 hx12 _)).mono ?_⟩
    rintro e Z2 ⟨b5, c5, rfl, hb9, hr5, hb5⟩
    gi_wp2_with fail
    have hYs := HYs.out
    refine leaves_marks (Y.heap.size :: Ds) Z2 (List.nodup_cons.2 ⟨fun h => by have := hDlt _ h; omega, hnd⟩) (fun D h => ?_) (fun W' hh => ⟨_, results_tmp2 Try.results30 _ _ _, b5, c5, rfl, ?_, ?_⟩)
    · have hDZ : Z.heap[D]? = some (.deferred (some [])) := by
        rcases List.mem_cons.1 h with rfl | h
        · exact HK.out
        · exact hI5 D h
      exact (hb5.block D (Array.getElem?_eq_some_iff.1 hDZ).1).trans hDZ
    · obtain ⟨A', c', he, hm, hcs⟩ := hr5
      have hA : A' = some ⟨b5, 0, none⟩ := by injection he with e1; exact e1.symm
      subst hA
      refine ⟨_, c', he, hm, fun k hk => ?_⟩
      obtain ⟨b, off, u, h1, h2, h3⟩ := hcs k hk
      cases h1
      refine ⟨b5, 0, u, rfl, (World.cell?_of_block (hh.block b5 (block_lt_of_cell h2) (fun hm => ?_))).trans h2, h3⟩
      rcases List.mem_cons.1 hm with e | e
      · have := (Array.getElem?_eq_some_iff.1 HK.out).1; omega
      · have := (Array.getElem?_eq_some_iff.1 (hI5 b5 e)).1; omega
    · refine ((Holds.of_below (Keeps.next (Keeps.next (Keeps.next hb1 hb2) hI4) hb5)).trans2 hh (fun r hr _ hm => ?_)).below (Nat.le_refl _)
      rcases List.mem_cons.1 hm with e | e
      · omega
      · have := (hD r e).1; omega
end Go.Proofs.Ytngonghgkeobhaa
