/- The walk of the recursion of windings: a generator's loop. The walk of windings: an iterator that hands over all windings. -/
import Derived.Test.YtikedhkibdeheaaPy
import Derived.Laws.EntriesVeiled
namespace Go.Proofs.Ytikedhkibdeheaa
section
open Go.RowKit Go.Shelf
set_option linter.unusedVariables false
attribute [local go_sem] Oper.semAt_some

variable {l B bg bd g d : Nat} {vr : Value} {K : Nat → Prop} {J Jx : Nat → (Nat → Prop) → World → Prop} {xs : List (List Int)}
set_option maxHeartbeats 4000000 in
set_option maxRecDepth 100000 in
theorem fill_s (n : Nat) (hg1 : g = 1 ∨ g = 2) (hbg : K bg) (hbd : K bd) (hKB : ∀ r, K r → r < B) (d1 : 1 ≤ d) (d5 : d ≤ 5) (rules : List ByteArray) (fuel gi : Nat) (hgi : gi + (fuel + 1) = g) (W0 : World) (hJ : ∀ k, Stable B (J k)) (hJx : ∀ k, Stable B (Jx k))
    (ih : ∀ (k' : Nat) (M' : Nat → Prop) (X' : World) (W' : List Int), Lies xs k' (fl d rules fuel W' (gi + 1)) → J k' M' X' → (∀ r, M' r → B + 3 ≤ r ∧ r < X'.heap.size) → Holds K W0 X' → FSt B l bg bd g d vr W' X' →
      Calls Try.prog 62 #[.int .i64 (gi + 1), .pointer (some ⟨bg, 0, none⟩), .pointer (some ⟨B + 1, 0, none⟩), .pointer (some ⟨B, 0, none⟩), .pointer (some ⟨bd, 0, none⟩), .pointer (some ⟨B + 2, 0, none⟩)] X'
        (FEnd B l bg bd g d vr K J Jx (gi + 1) W' (k' + (fl d rules fuel W' (gi + 1)).length) M' X'))
    (k : Nat) (M : Nat → Prop) (X : World) (W : List Int) (hlie : Lies xs k (fl d rules (fuel + 1) W gi)) (hj0 : J k M X) (hX : FSt B l bg bd g d vr W X) (hM : ∀ r, M r → B + 3 ≤ r ∧ r < X.heap.size) (hKX : Holds K W0 X) :
    Calls Try.prog 62 #[.int .i64 gi, .pointer (some ⟨bg, 0, none⟩), .pointer (some ⟨B + 1, 0, none⟩), .pointer (some ⟨B, 0, none⟩), .pointer (some ⟨bd, 0, none⟩), .pointer (some ⟨B + 2, 0, none⟩)] X
      (FEnd B l bg bd g d vr K J Jx gi W (k + (fl d rules (fuel + 1) W gi).length) M X) := by
  have c0 : ∀ o o', ((X.alloc o).alloc o').cell? ⟨bg, 0, none⟩ = some (.int .i64 g) := fun o o' => ((hX.hg.alloc o).alloc o').cell 0
  have c1 : ∀ o o', ((X.alloc o).alloc o').cell? ⟨bd, 0, none⟩ = some (.int .i64 d) := fun o o' => ((hX.hd.alloc o).alloc o').cell 0
  have heq : ((gi : Int) == (g : Int)) = false := by simp; omega
  have hB := hX.hf.lt
  have hbgX := hX.hg.lt
  have hbdX := hX.hd.lt
  have Hih := Lib.hid ih
  have HJ := Lib.hid hJ
  have HJx := Lib.hid hJx
  have Hgi := Lib.hid hgi
  clear ih hJ hJx hgi
  refine (callsIn_wide (n := n)).1 ?_
  refine callsIn_of_wp_marks Try.func62 rfl trivial ?_ rfl
  simp only [Try.ntmps62, List.size_toArray, List.length_cons, List.length_nil, Nat.reduceAdd, Nat.reduceSub, Array.replicate_succ, Array.replicate_zero, List.push_toArray, List.append_toArray, List.nil_append, List.cons_append]
  gi_wp2_with fail
  refine ⟨trivial, fun h => by simp [Fence.wide] at h, (callsIn_wide.2 (permutations_c d _)).mono ?_⟩
  rintro e w1 ⟨rfl, rfl⟩
  gi_wp2_with fail
  clear c0 c1
  obtain ⟨Y, hY⟩ : ∃ Y, ((X.alloc (.cells #[.int .i64 gi] 3)).alloc (.cells #[.bool false] 4)).alloc (.cells #[.int .i64 d] 3) = Y := ⟨_, rfl⟩
  have hYs : Y.heap.size = X.heap.size + 3 := by rw [← hY]; simp
  have hXY : Holds (fun _ => True) X Y := by rw [← hY]; exact (((Holds.refl _ X).alloc _).alloc _).alloc _
  have hgY : At Y X.heap.size 3 #[.int .i64 gi] := by rw [← hY]; exact ((At.new X _ _).alloc _).alloc _
  have hrY : At Y (X.heap.size + 1) 4 #[.bool false] := by rw [← hY]; exact (At.new2 X _ _ _).alloc _
  have hpY : At Y (X.heap.size + 1 + 1) 3 #[.int .i64 d] := by rw [← hY]; exact At.new' _ _ (by simp) _ _
  rw [hY]
  clear hY
  refine range_mine (perms d) (gf := 75) (lb := #[.pointer (some ⟨X.heap.size + 1 + 1, 0, none⟩)]) rfl (enters_of Try.func75 (by kernel_rfl) rfl)
    (perms_iter d d1 d5 (X.heap.size + 1 + 1) (fun r => r = X.heap.size + 1 + 1) rfl Y (fun r h => by omega) hpY) (fun _ _ => rfl) (fun r h => by omega) (fun b x A A' hh h => h.holds hh (by omega))
    (fun j => FI B l bg bd g d vr K M X gi W (J (k + (flP d rules fuel W gi j).length))) (fun _ => FI B l bg bd g d vr K M X gi W (fun Mo Z => ∃ k', Jx k' Mo Z))
    (fun j => FI.stable (HJ.out _) (by omega) (fun r h => (hM r h).2) hB hbgX hbdX) (fun _ => FI.stable (fun Mo Z Z' ⟨k', h⟩ hh => ⟨k', HJx.out k' _ _ _ h hh⟩) (by omega) (fun r h => (hM r h).2) hB hbgX hbdX) ?h0
    (fun _ a' _ => a' = { tmps := #[.int .i64 gi, .pointer (some ⟨bg, 0, none⟩), .pointer (some ⟨B + 1, 0, none⟩), .pointer (some ⟨B, 0, none⟩), .pointer (some ⟨bd, 0, none⟩), .pointer (some ⟨B + 2, 0, none⟩), .pointer (some ⟨X.heap.size, 0, none⟩), .pointer (some ⟨X.heap.size + 1, 0, none⟩),
      .slice (some ⟨Y.heap.size + 2 + 1, 0, none⟩) d d, .int .i64 gi, .pointer (some ⟨bg, 0, none⟩), .int .i64 g, .bool false, undef, undef, undef, undef, undef, undef, undef, undef, undef, undef, undef, undef, undef, undef, undef, .int .i64 d,
      .func (.func 75) #[] #[.pointer (some ⟨X.heap.size + 1 + 1, 0, none⟩)], .slice (some ⟨Y.heap.size + 2 + 1, 0, none⟩) d d, undef, undef, undef, undef, undef, undef, undef, undef], defers := [] })
    (fun _ _ _ _ _ h => h) ?assign ?body ?done ?stop
  case h0 =>
    exact ⟨M, W, HJ.out _ _ _ _ hj0 (hXY.mono fun _ _ _ => trivial), fun r hr => ⟨(hM r hr).1, by have := (hM r hr).2; omega⟩, fun r h => .inl h, hXY.mono fun _ _ _ => trivial, hX.holds2 hXY trivial trivial trivial trivial trivial, SameBut.refl hX.ok.1, hgY, hrY⟩
  case assign =>
    intro l' j x M1 Z _ _ _ _
    have HYs := Lib.hid hYs
    clear hYs
    gi_wp2
    exact ⟨Holds.refl _ _, trivial⟩
  case body =>
    rintro l' j x M1 a' Z hx ⟨Mo, W', hj, hMo, hMoM, hhX, hF, hsame, hgc, hrc⟩ hM1 hKin hDx rfl hsz
    have hxp := perms_ok d x (List.mem_of_getElem? hx)
    have HYs := Lib.hid hYs
    have hgi2 : (gi : Int) = 0 ∨ (gi : Int) = 1 := by have := Hgi.out; omega
    have hx5 := hasB_5 d (by omega) x hxp.2.1
    have hlay := lay_c W' hF.ok.1 (B + 1) (some ⟨Y.heap.size + 2 + 1, 0, none⟩) d x gi hgi2 Z (RdI_at hDx (by unfold maxLen; have := hxp.1; omega) d) (fun a ha => by cases ha; simp; omega) (by have := hxp.1; omega) hx5 hF.hw
    rw [hxp.1, Int.toNat_natCast] at hlay
    have Hlay := Lib.hid hlay
    have cg1 := hgc.cell 0
    have hZX := hhX.size
    have hx1 := lies_flP hlie hx
    have hW'x := fl_same d d5 rules g fuel (gi + 1) _ _ (by have := Hgi.out; omega) (hsame.lay hxp d5)
    rw [hW'x] at hx1
    have Hx1 := Lib.hid hx1
    have HWx := Lib.hid hW'x
    have Hx := Lib.hid hx
    have Hxp := Lib.hid hxp
    have Hx5 := Lib.hid hx5
    simp only [List.getElem?_toArray, List.getElem?_cons_zero] at cg1
    clear hlay hx1 hW'x hx hxp hYs hx5 hlie
    gi_wp2_with fail
    refine ⟨trivial, fun h => by simp [Fence.wide] at h, ((callsIn_wide.2 Hlay.out).inRound l').mono ?_⟩
    rintro e Za ⟨rfl, hwa, hga⟩
    have hYs := HYs.out
    have hbgB := hKB bg hbg
    have hbdB := hKB bd hbd
    have hZa : Holds (fun r => r ≠ B + 1) Z Za := (Holds.refl _ Z).grown hga (by intro r e; cases e; simp)
    have hnM : ∀ r, X.heap.size ≤ r → ¬ M1 r → ¬ Mo r := fun r hr hn h => (hMoM r h).elim (fun h => by have := (hM r h).2; omega) hn
    have hFa : FSt B l bg bd g d vr (layS W' gi x) Za := ⟨hF.hg.holds hZa (by omega), hF.hd.holds hZa (by omega), hF.hy.holds hZa (by omega), hwa, hF.hf.holds hZa (by omega), lay_ok W' gi x hF.ok (by have := Hxp.out.1; omega) Hx5.out, by rw [layS_nth _ _ _ _ (by omega)]; exact hF.n0, by rw [layS_nth _ _ _ _ (by omega)]; exact hF.n1⟩
    have hfill := Hih.out _ Mo Za (layS W' gi x) Hx1.out (HJ.out _ _ _ _ hj (hZa.mono fun r _ h => h.elim (fun h => by omega) (fun h => by have := (hMo r h).1; omega))) (fun r hr => ⟨(hMo r hr).1, Nat.lt_of_lt_of_le (hMo r hr).2 hZa.size⟩)
      (((hKX.trans2 hhX (fun r _ h => .inl h)).trans2 hZa (fun r _ h => by have := hKB r h; omega))) hFa
    have Hfill := Lib.hid hfill
    have cf := hFa.hf.cell 0
    have cg2 := (hgc.holds hZa (by omega)).cell 0
    simp only [List.getElem?_toArray, List.getElem?_cons_zero] at cf cg2
    clear hfill hYs
    gi_wp2_with fail
    refine ⟨trivial, fun h => by simp [Fence.wide] at h, ((callsIn_wide.2 Hfill.out).inRound l').mono ?_⟩
    rintro e Zb ⟨M2, W2, hb2, hm2, hh2, hF2, hs2, hend⟩
    have hYs := HYs.out
    have hsz2 := hh2.size
    have hsza := hZa.size
    have hgb : At Zb X.heap.size 3 #[.int .i64 gi] := (hgc.holds hZa (by omega)).holds hh2 (.inr ⟨by omega, hnM _ (Nat.le_refl _) (fun h => by have := (hM1 _ h).1; omega), by omega⟩)
    have hrb : At Zb (X.heap.size + 1) 4 #[.bool false] := (hrc.holds hZa (by omega)).holds hh2 (.inr ⟨by omega, hnM _ (by omega) (fun h => by have := (hM1 _ h).1; omega), by omega⟩)
    have b1 : ∀ r, (M1 r ∨ (M2 r ∧ Z.heap.size ≤ r)) → r < Zb.heap.size := fun r h => h.elim (fun h => by have := (hM1 r h).2; omega) (fun h => (hb2 r h.1).2)
    have b2 : ∀ r, (M1 r ∨ (M2 r ∧ Z.heap.size ≤ r)) → M1 r ∨ Z.heap.size ≤ r := fun r h => h.imp id (fun h => h.2)
    have b3 : Holds (fun r => r = X.heap.size + 1 + 1 ∨ (Y.heap.size ≤ r ∧ ¬ M1 r)) Z Zb := (hZa.mono (fun r _ h => by omega)).trans2 hh2 (fun r _ h => .inr ⟨by omega, hnM r (by omega) (fun hm => h.elim (fun h => by have := (hM1 r hm).1; omega) (fun h => h.2 hm)), by omega⟩)
    have b4 : ∀ r, M2 r → M r ∨ (M1 r ∨ (M2 r ∧ Z.heap.size ≤ r)) := fun r h => (hm2 r h).elim (fun h' => (hMoM r h').imp id .inl) (fun h' => .inr (.inr ⟨h, by omega⟩))
    have b5 : Holds (FK B K M) X Zb := (hhX.trans2 hZa (fun r _ h => h.elim (fun h => by have := hKB r h; omega) (fun h => h.2.2))).trans2 hh2 (fun r hr h => h.imp id (fun h => ⟨h.1, fun hm => (hMoM r hm).elim h.2.1 (fun hm => by have := (hM1 r hm).1; omega), h.2.2⟩))
    have b6 : SameBut g d gi W W2 := (hsame.trans (SameBut.self hF.ok.1 Hxp.out d5 (by have := Hgi.out; omega))).trans (hs2.weak (by omega))
    clear hYs
    rcases hend with ⟨rfl, hj2⟩ | ⟨rfl, hj2⟩
    · gi_wp2
      exact ⟨_, b1, b2, b3, M2, W2, by rw [flP_succ _ _ _ _ _ _ _ Hx.out, HWx.out, List.length_append, ← Nat.add_assoc]; exact hj2, hb2, b4, b5, hF2, b6, hgb, hrb⟩
    · have fr := hrb.frozen 0
      have cr := hrb.cell 0
      simp only [List.getElem?_toArray, List.getElem?_cons_zero] at cr
      gi_wp2
      have hYs := HYs.out
      exact ⟨_, fun r hr => Nat.lt_of_lt_of_le (b1 r hr) (by simp [World.setCell]), b2, b3.set _ (by simp; omega) _,
        FI.setr (fun Mo Z Z' ⟨k', h⟩ hh => ⟨k', HJx.out k' _ _ _ h hh⟩) (fun r h => (hM r h).2) hB hbgX hbdX (fun r h => h.elim (fun h => by have := (hM1 r h).1; omega) (fun h => by omega)) ⟨M2, W2, hj2, hb2, b4, b5, hF2, b6, hgb, hrb⟩⟩
  case done =>
    rintro M1 Z hI hK hM1
    have hrc : At Z (X.heap.size + 1) 4 #[.bool false] := by obtain ⟨_, _, _, _, _, _, _, _, _, h⟩ := hI; exact h
    have fr := hrc.frozen 0
    have cr := hrc.cell 0
    simp only [List.getElem?_toArray, List.getElem?_cons_zero] at cr
    have HYs := Lib.hid hYs
    have HK := Lib.hid hK
    clear hYs hK
    gi_wp2
    have hYs := HYs.out
    have hK2 : (Z.setCell ⟨X.heap.size + 1, 0, none⟩ (.bool true)).heap[Y.heap.size]? = some (.deferred (some [])) := (heap_setCell_other Z _ _ _ (by simp; omega)).trans HK.out
    refine ⟨by simp, .inl ⟨_, _, rfl, run_takeDeferred hK2, ?_⟩⟩
    have hh : Holds (fun r => r ≠ X.heap.size + 1 ∧ r ≠ Y.heap.size) Z ((Z.setCell ⟨X.heap.size + 1, 0, none⟩ (.bool true)).putObj Y.heap.size (.deferred none)) := ((Holds.refl _ Z).set _ (by simp) _).put _ (by simp) _
    have hc := ((hrc.set 0 (.bool true)).holds (K := fun r => r ≠ Y.heap.size) ((Holds.refl _ _).put Y.heap.size (by simp) (.deferred none)) (by omega)).cell 0
    refine ⟨.bool true, results_cell_one Try.results62 _ _ ⟨X.heap.size + 1, 0, none⟩ _ rfl (Try.isAgg4 _) hc, ?_⟩
    rw [fl_succ]
    exact fill_end true Y.heap.size (by omega) hM hB hbgX hbdX (HJ.out _) hI (fun r h => (hM1 r h).1) hh (fun Mo h => .inl ⟨rfl, h⟩)
  case stop =>
    rintro j M1 Z hI hK hM1
    have hrc : At Z (X.heap.size + 1) 4 #[.bool false] := by obtain ⟨_, _, _, _, _, _, _, _, _, h⟩ := hI; exact h
    have HYs := Lib.hid hYs
    have HK := Lib.hid hK
    clear hYs hK
    gi_wp2
    have hYs := HYs.out
    refine ⟨by simp, .inl ⟨_, _, rfl, run_takeDeferred HK.out, ?_⟩⟩
    have hh : Holds (fun r => r ≠ X.heap.size + 1 ∧ r ≠ Y.heap.size) Z (Z.putObj Y.heap.size (.deferred none)) := (Holds.refl _ Z).put _ (by simp) _
    have hc := (hrc.holds (K := fun r => r ≠ Y.heap.size) ((Holds.refl _ _).put Y.heap.size (by simp) (.deferred none)) (by omega)).cell 0
    refine ⟨.bool false, results_cell_one Try.results62 _ _ ⟨X.heap.size + 1, 0, none⟩ _ rfl (Try.isAgg4 _) hc, ?_⟩
    exact fill_end false Y.heap.size (by omega) hM hB hbgX hbdX (fun Mo Z Z' ⟨k', h⟩ hh => ⟨k', HJx.out k' _ _ _ h hh⟩) hI (fun r h => (hM1 r h).1) hh (fun Mo h => .inr ⟨rfl, h⟩)

/-- The whole recursion. -/
theorem fill_c (n : Nat) (hg1 : g = 1 ∨ g = 2) (hbg : K bg) (hbd : K bd) (hKB : ∀ r, K r → r < B) (d1 : 1 ≤ d) (d5 : d ≤ 5) (rules : List ByteArray) (hr : wordsOk rules) (W0 : World) (hW0 : W0.heap.size = B) (hrd : ∀ X', Holds K W0 X' → RdS X' vr rules) (hJ : ∀ k, Stable B (J k)) (hJx : ∀ k, Stable B (Jx k))
    (hY : ∀ k x M W1, xs[k]? = some x → J k M W1 → (∀ r, M r → B ≤ r ∧ r < W1.heap.size) → Holds K W0 W1 → YieldAt Fence.wide (n - 1) Try.prog l #[.agg (ic x)] W1 (RoundOk B K J Jx k M W1)) :
    ∀ (fuel gi : Nat), gi + fuel = g → ∀ (k : Nat) (M : Nat → Prop) (X : World) (W : List Int), Lies xs k (fl d rules fuel W gi) → J k M X → (∀ r, M r → B + 3 ≤ r ∧ r < X.heap.size) → Holds K W0 X → FSt B l bg bd g d vr W X →
    Calls Try.prog 62 #[.int .i64 gi, .pointer (some ⟨bg, 0, none⟩), .pointer (some ⟨B + 1, 0, none⟩), .pointer (some ⟨B, 0, none⟩), .pointer (some ⟨bd, 0, none⟩), .pointer (some ⟨B + 2, 0, none⟩)] X
      (FEnd B l bg bd g d vr K J Jx gi W (k + (fl d rules fuel W gi).length) M X) := by
  intro fuel
  induction fuel with
  | zero =>
    intro gi hgi k M X W hlie hj hM hKX hX
    obtain rfl : gi = g := by omega
    have hB := hX.hf.lt
    have hjX : ∀ X', Holds (fun r => r < X.heap.size) X X' → J k M X' := fun X' hh => hJ _ _ _ _ hj (hh.mono fun r _ h => h.elim (fun h => by omega) (fun h => (hM r h).2))
    by_cases hst : stdB W = true
    · by_cases hkp : keepsB W rules = true
      · have e : fl d rules 0 W gi = [W] := by simp [fl, hst, hkp]
        rw [e] at hlie ⊢
        have hx := hlie 0 W rfl
        rw [Nat.add_zero] at hx
        exact fill_03 n hg1 hbg hbd d5 rules hr k M X W hX hM (fun X' hb => hrd X' (hKX.next hb)) hst hkp (fun X' hb => hY k W M X' hx (hjX X' (Holds.of_keeps hb _)) (fun r h => ⟨by have := (hM r h).1; omega, Nat.lt_of_lt_of_le (hM r h).2 hb.size⟩) (hKX.next hb))
          (fun k M X' h g o u hg hn => hJ _ _ _ _ h ((Holds.refl _ _).set _ (by simp [hn]; omega) _)) (fun k M X' h g o u hg hn => hJx _ _ _ _ h ((Holds.refl _ _).set _ (by simp [hn]; omega) _))
      · have hkp' : keepsB W rules = false := by simpa using hkp
        have e : fl d rules 0 W gi = [] := by simp [fl, hkp']
        rw [e]
        exact fill_02 n hg1 hbg hbd d5 rules hr k M X W hX hM (fun X' hb => hrd X' (hKX.next hb)) hst hkp' hjX
    · have hst' : stdB W = false := by simpa using hst
      have e : fl d rules 0 W gi = [] := by simp [fl, hst']
      rw [e]
      exact fill_01 n hg1 hbg hbd k M X W hX hM hst' hjX
  | succ fuel ih =>
    intro gi hgi k M X W hlie hj hM hKX hX
    exact fill_s n hg1 hbg hbd hKB d1 d5 rules fuel gi hgi W0 hJ hJx (fun k' M' X' W' h1 h2 h3 h4 h5 => ih (gi + 1) (by omega) k' M' X' W' h1 h2 h3 h4 h5) k M X W hlie hj hX hM hKX
end
section
open Go.RowKit Go.Shelf

theorem Holds.row {K : Nat → Prop} {a w : World} (h : Holds K a w) (g : Nat) (hg : ¬ K g) (cs : Array Value) : Holds K a (w.setRow g cs) :=
  h.trans ⟨rfl, rfl, rfl, by simp, fun k _ hk => setRow_other w g k cs (fun e => hg (e ▸ hk))⟩
/-- All windings of a presentation with d sheets, in their order. -/
def wins (g d : Nat) (rules : List ByteArray) : List (List Int) := fl d rules g (w0 g d) 0

set_option maxHeartbeats 2000000 in
theorem windings_c (v : Array Value) (d : Int) (w : World) :
    Calls Try.prog 37 #[.agg v, .int .i64 d] w fun e w' => e = .returned (.func (.func 61) #[] #[.pointer (some ⟨w.heap.size, 0, none⟩), .pointer (some ⟨w.heap.size + 1, 0, none⟩)]) ∧ (w.alloc (.cells v 25)).alloc (.cells #[.int .i64 d] 3) = w' := by
  go_enter Try.func37, Try.ntmps37
  go_wp2
  go_ret
  exact ⟨rfl, rfl⟩

set_option maxHeartbeats 2000000 in
set_option maxRecDepth 100000 in
theorem wins_iter (g d : Nat) (hg1 : g = 1 ∨ g = 2) (d1 : 1 ≤ d) (d5 : d ≤ 5) (rules : List ByteArray) (hr : wordsOk rules) (bg bd : Nat) (vr : Value) (K : Nat → Prop) (hbg : K bg) (hbd : K bd) (w1 : World) (hK : ∀ r, K r → r < w1.heap.size)
    (hgc : At w1 bg 25 #[.int .i64 g, vr]) (hdc : At w1 bd 3 #[.int .i64 d]) (hrd : ∀ X', Holds K w1 X' → RdS X' vr rules) :
    Iter Try.prog 61 #[.pointer (some ⟨bg, 0, none⟩), .pointer (some ⟨bd, 0, none⟩)] (fun _ (x : List Int) => #[.agg (ic x)]) (fun _ _ _ => True) K (wins g d rules) w1 := by
  intro n l J Jx W hW hsz hJ hJx hY h0
  have hgW := hgc.holds hW hbg
  have hdW := hdc.holds hW hbd
  have hfill := fill_c (l := l) (B := W.heap.size) (bg := bg) (bd := bd) (vr := vr) (K := K) (J := J) (Jx := Jx) (xs := wins g d rules) (n + 1) hg1 hbg hbd (fun r h => by have := hK r h; omega) d1 d5 rules hr W rfl (fun X' hh => hrd X' (hW.trans hh)) hJ hJx
    (fun k x M W1 hx hj hM hh => hY k x M W1 hx hj hM hh trivial) g 0 (by omega) 0 (fun _ => False)
  rw [Int.ofNat_zero] at hfill
  have Hfill := Lib.hid hfill
  have HJ := Lib.hid hJ
  have c0 : ∀ o, (W.alloc o).cell? ⟨bg, 0, none⟩ = some (.int .i64 g) := fun o => (hgW.alloc o).cell 0
  have c1 : ∀ o, (W.alloc o).cell? ⟨bd, 0, none⟩ = some (.int .i64 d) := fun o => (hdW.alloc o).cell 0
  clear hfill hJ hJx hY
  rw [show (#[Value.func (.yield l) #[] #[]] ++ #[Value.pointer (some ⟨bg, 0, none⟩), Value.pointer (some ⟨bd, 0, none⟩)] : Array Value) = #[.func (.yield l) #[] #[], .pointer (some ⟨bg, 0, none⟩), .pointer (some ⟨bd, 0, none⟩)] from rfl]
  go_enter Try.func61, Try.ntmps61
  go_wp2_with (refine wpList_store_row rfl 78 _ _ rfl (W.heap.size + 1) (ic (w0 g d)) rfl rfl 78 (ic (w0 0 0)) (At.new2 W _ 78 (ic (w0 0 0))) (sizeW _ rfl) rfl (ic_one _) ?_)
  refine (Hfill.out _ (w0 g d) (fun i x h => by rw [Nat.zero_add]; exact h) ?hj (fun r h => h.elim) ?hk ?hs).mono ?_
  case hj => exact HJ.out 0 _ _ _ h0 (Holds.alloc (Holds.row (((Holds.refl _ W).alloc _).alloc _) _ (by simp) _) _)
  case hk => exact Holds.alloc (Holds.row (((Holds.refl K W).alloc _).alloc _) _ (fun h => by have := hK _ h; omega) _) _
  case hs =>
    exact ⟨(((hgW.alloc _).alloc _).rowfar (by have := hgW.lt; omega) _).alloc _, (((hdW.alloc _).alloc _).rowfar (by have := hdW.lt; omega) _).alloc _, (((At.new W _ _).alloc _).rowfar (by omega) _).alloc _,
      ((At.new2 W _ 78 (ic (w0 0 0))).row (ic (w0 g d))).alloc _, At.new' _ _ (by simp) _ _, w0_ok g d, rfl, rfl⟩
  rintro e X' ⟨M', W', h1', h2', hh, _, _, hend⟩
  have hb : ∀ r, M' r → W.heap.size ≤ r ∧ r < X'.heap.size := fun r hr => ⟨by have := (h1' r hr).1; omega, (h1' r hr).2⟩
  rcases hend with ⟨rfl, hj⟩ | ⟨rfl, k, hj⟩
  · go_wp2_with fail
    go_end0
    exact ⟨⟨_, rfl⟩, M', hb, .inl (by rw [Nat.zero_add] at hj; exact hj)⟩
  · go_wp2_with fail
    go_end0
    exact ⟨⟨_, rfl⟩, M', hb, .inr ⟨k, hj⟩⟩
end
end Go.Proofs.Ytikedhkibdeheaa
