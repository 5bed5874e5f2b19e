/- The walk of Tables. -/
import Derived.Test.YtikedhkibdeheaaCo
import Derived.Test.YtikedhkibdeheaaTb
import Derived.OrdersIn
namespace Go.Proofs.Ytikedhkibdeheaa
open Go.RowKit Go.Shelf
attribute [local go_sem] Oper.semAt_some

/-- Between two windings: N holds what the tables read, not the row that holds them. -/
def TI (w : World) (bt g d : Nat) (rules : List ByteArray) (k : Nat) (M : Nat → Prop) (Z : World) : Prop :=
  ∃ (vt : Value) (us : List Value) (N : Nat → Prop), At Z bt 43 #[vt] ∧ Z.ownsRow w.heap.size 49 1 vt k us ∧ (∀ (i : Nat) (u : Value), us[i]? = some u → ∃ x, (wins g d rules)[i]? = some x ∧ RdTB N Z u (colsW x g d)) ∧
    (∀ b, vt.ownBlock = some b → M b ∧ ¬ N b) ∧ (∀ r, N r → M r) ∧ Below w.heap.size w Z
theorem TI.stable {w : World} {bt g d : Nat} {rules : List ByteArray} {k S : Nat} (hb : bt < S) (hw : w.heap.size ≤ S) : Stable S (TI w bt g d rules k) := by
  rintro M Z Z' ⟨vt, us, N, h1, h2, h3, h4, h6, h5⟩ hh
  refine ⟨vt, us, N, h1.holds hh (.inl hb), own_holds h2 hh (fun b h => .inr (h4 b h).1), fun i u hu => ?_, h4, h6, ((Holds.of_below h5).trans2 hh (fun r _ h => .inl (by omega))).below (Nat.le_refl _)⟩
  obtain ⟨x, hx, hr⟩ := h3 i u hu
  exact ⟨x, hx, hr.to hh (fun b _ h => ⟨.inr (h6 b h), h⟩)⟩
/-- One winding more. -/
theorem TI.next {w Z w2 w4 : World} {bt g d : Nat} {rules : List ByteArray} {j g4 cap4 : Nat} {M1 K N : Nat → Prop} {S : Nat} {x : List Int} {vt vc : Value} {us : List Value} {o : Obj} (hx : (wins g d rules)[j]? = some x) (hus : ∀ (i : Nat) (u : Value), us[i]? = some u → ∃ x, (wins g d rules)[i]? = some x ∧ RdTB N Z u (colsW x g d))
    (hown : Z.ownsRow w.heap.size 49 1 vt j us) (hvM : ∀ b, vt.ownBlock = some b → M1 b ∧ ¬ N b) (hNM : ∀ r, N r → M1 r) (hbel : Below w.heap.size w Z) (hM1 : ∀ r, M1 r → S + 2 ≤ r ∧ r < Z.heap.size) (hbt : bt < S) (hS : S ≤ Z.heap.size) (hKbt : ¬ K bt) (hKS : ∀ r, K r → r < S) (hwb : w.heap.size ≤ bt)
    (hbZ : Keeps Z w2) (hrc : RdTB (fun r => Z.heap.size ≤ r) w2 vc (colsW x g d)) (hown' : w4.ownsRow w.heap.size 49 1 (.slice (some ⟨g4, 0, none⟩) (j + 1) cap4) (j + 1) (us ++ [vc])) (hgrow : (w2.alloc o).grownBy w4 vt.ownBlock) (h4 : At w4 bt 43 #[vt])
    (hg4 : vt.ownBlock = some g4 ∨ g4 = (w2.alloc o).heap.size) (hg4l : g4 < w4.heap.size) :
    ∃ M' : Nat → Prop, (∀ r, M' r → r < (w4.setCell ⟨bt, 0, none⟩ (.slice (some ⟨g4, 0, none⟩) (j + 1) cap4)).heap.size) ∧ (∀ r, M' r → M1 r ∨ Z.heap.size ≤ r) ∧ Holds (fun r => K r ∨ (S ≤ r ∧ ¬ M1 r)) Z (w4.setCell ⟨bt, 0, none⟩ (.slice (some ⟨g4, 0, none⟩) (j + 1) cap4)) ∧ TI w bt g d rules (j + 1) M' (w4.setCell ⟨bt, 0, none⟩ (.slice (some ⟨g4, 0, none⟩) (j + 1) cap4)) := by
  generalize hv4 : Value.slice (some ⟨g4, 0, none⟩) (j + 1) cap4 = v4 at *
  have hob : v4.ownBlock = some g4 := by rw [← hv4]; rfl
  have hlu : us.length = j := by have := hown.1; omega
  have hs2 := hbZ.size
  have hs4 := hgrow.size
  simp only [World.size_alloc] at hs4 hg4
  have hgbt : bt ≠ g4 := by
    rcases hg4 with h | h
    · have := (hM1 g4 (hvM g4 h).1).1; omega
    · omega
  have hT : ∀ Kx : Nat → Prop, (∀ b, vt.ownBlock = some b → ¬ Kx b) → ¬ Kx bt → Holds Kx w2 (w4.setCell ⟨bt, 0, none⟩ v4) := fun Kx h1 h2 => (((Holds.refl _ w2).alloc o).grown hgrow h1).set _ h2 _
  have hZ4 : ∀ Kx : Nat → Prop, (∀ b, vt.ownBlock = some b → ¬ Kx b) → ¬ Kx bt → Holds Kx Z (w4.setCell ⟨bt, 0, none⟩ v4) := fun Kx h1 h2 => (Holds.of_keeps hbZ Kx).trans (hT Kx h1 h2)
  refine ⟨fun r => M1 r ∨ (Z.heap.size ≤ r ∧ r < w4.heap.size), fun r h => ?_, fun r h => h.imp id (fun h => h.1), hZ4 _ (fun b hb h => ?_) (fun h => h.elim hKbt (fun h => by omega)), v4, us ++ [vc], fun r => N r ∨ (Z.heap.size ≤ r ∧ r < w2.heap.size), ?_, own_set hown' (by rw [hob]; simpa using hgbt), ?_, ?_, ?_, ?_⟩
  · simp only [World.setCell, Array.size_modify]
    exact h.elim (fun h => by have := (hM1 r h).2; omega) (fun h => h.2)
  · have h1 := (hvM b hb).1
    exact h.elim (fun h => by have := hKS b h; have := (hM1 b h1).1; omega) (fun h => h.2 h1)
  · exact h4.set 0 v4
  · intro i u hu
    by_cases hi : i < j
    · rw [List.getElem?_append_left (by omega)] at hu
      obtain ⟨y, hy, hr⟩ := hus i u hu
      exact ⟨y, hy, hr.to (hZ4 N (fun b hb h => (hvM b hb).2 h) (fun h => by have := (hM1 _ (hNM _ h)).1; omega)) (fun b _ h => ⟨h, .inl h⟩)⟩
    · have hij : i = j := by have := (List.getElem?_eq_some_iff.1 hu).1; simp at this; omega
      subst hij
      rw [List.getElem?_append_right (by omega), hlu, Nat.sub_self] at hu
      cases hu
      refine ⟨x, hx, hrc.to (hT (fun r => Z.heap.size ≤ r ∧ vt.ownBlock ≠ some r ∧ r ≠ bt) (fun b hb h => h.2.1 hb) (fun h => h.2.2 rfl)) (fun b hb h => ⟨⟨h, fun e => by have := (hM1 b (hvM b e).1).2; omega, by omega⟩, .inr ⟨h, hb⟩⟩)⟩
  · intro b hb
    rw [hob] at hb
    cases hb
    rcases hg4 with h | h
    · exact ⟨.inl (hvM g4 h).1, fun h' => h'.elim (hvM g4 h).2 (fun h' => by have := (hM1 _ (hvM g4 h).1).2; omega)⟩
    · exact ⟨.inr ⟨by omega, hg4l⟩, fun h' => h'.elim (fun h' => by have := (hM1 _ (hNM _ h')).2; omega) (fun h' => by omega)⟩
  · exact fun r h => h.imp (hNM r) (fun h => ⟨h.1, by omega⟩)
  · refine ((Holds.of_below hbel).trans2 (hZ4 (fun r => r < w.heap.size) (fun b hb h => ?_) (by omega)) (fun _ _ h => h)).below (Nat.le_refl _)
    have := hown.lt b hb
    omega
theorem infoT : (Try.prog.info? 49).map (fun i => (i.zero, i.size, i.bytes)) = some (some (.slice none 0 0), 1, 24) := by kernel_rfl

set_option maxHeartbeats 2000000 in
set_option maxRecDepth 100000 in
theorem tables_yes (g d : Nat) (hg : g = 1 ∨ g = 2) (d1 : 1 ≤ d) (d5 : d ≤ 5) (v : Value) (rules : List ByteArray) (hz : szOk rules) (hG : groupB g rules = true) (w : World) (hv : RdS w v rules) :
    Calls Try.prog 19 #[.agg #[.int .i64 g, v], .int .i64 d] w fun e w' => ∃ vt, e = .returned (.tuple #[vt, .int .i64 0]) ∧ RdLB (fun r => w.heap.size ≤ r) w' vt ((wins g d rules).map fun x => colsW x g d) ∧ Keeps w w' := by
  have hS : sheetsB d = true := by simp [sheetsB]; omega
  have hlen := wins_length g d hg d1 d5 rules
  have hrw := (groupB_parts _ _ hG).2.2
  refine (callsIn_wide (n := 5)).1 ?_
  refine callsIn_of_wp_marks Try.func19 rfl trivial ?_ rfl
  simp only [Try.ntmps19, List.size_toArray, List.length_cons, List.length_nil, Nat.reduceAdd, Nat.reduceSub, Array.replicate_succ, Array.replicate_zero, List.push_toArray, List.append_toArray, List.nil_append, List.cons_append]
  gi_wp2_with fail
  refine ⟨trivial, (callsIn_wide.2 (isGroup_c g v rules hz _ (hv.below (Keeps.alloc (Below.refl _ w) _)))).mono ?_⟩
  rintro e w1 ⟨rfl, hb1⟩
  have hbx := (At.new w 25 #[.int .i64 g, v]).later hb1
  have hk1 : Keeps w w1 := Keeps.next (Keeps.alloc (Below.refl _ w) _) hb1
  have hlt1 := hbx.lt
  gi_wp2_with fail
  refine ⟨trivial, (callsIn_wide.2 (isSheets_c d _)).mono ?_⟩
  rintro e w2 ⟨rfl, rfl⟩
  have hbx2 := hbx.alloc (.cells #[.slice none 0 0] 43)
  gi_wp2_with (refine in_load_row rfl 25 _ rfl w.heap.size rfl 25 _ _ hbx2 Try.underlying25 rfl (sizeG v g) ?_)
  refine ⟨trivial, (callsIn_wide.2 (windings_c _ d _)).mono ?_⟩
  rintro e w3 ⟨rfl, rfl⟩
  gi_wp2_with fail
  obtain ⟨Y, hY⟩ : ∃ Y, ((w1.alloc (.cells #[.slice none 0 0] 43)).alloc (.cells #[.int .i64 g, v] 25)).alloc (.cells #[.int .i64 d] 3) = Y := ⟨_, rfl⟩
  have hYs : Y.heap.size = w1.heap.size + 3 := by rw [← hY]; simp
  have hcY : At Y w1.heap.size 43 #[.slice none 0 0] := by rw [← hY]; exact ((At.new w1 _ _).alloc _).alloc _
  have hgY : At Y (w1.heap.size + 1) 25 #[.int .i64 g, v] := by rw [← hY]; exact (At.new2 w1 _ _ _).alloc _
  have hdY : At Y (w1.heap.size + 1 + 1) 3 #[.int .i64 d] := by rw [← hY]; exact At.new' _ _ (by simp) _ _
  have hkY : Keeps w Y := by rw [← hY]; exact Keeps.alloc (Keeps.alloc (Keeps.alloc hk1 _) _) _
  have hw1s := hk1.size
  rw [hY]
  clear hY hbx hbx2
  refine range_mine (wins g d rules) (gf := 61) (lb := #[.pointer (some ⟨w1.heap.size + 1, 0, none⟩), .pointer (some ⟨w1.heap.size + 1 + 1, 0, none⟩)]) rfl (enters_of Try.func61 (by kernel_rfl) rfl)
    (wins_iter g d hg d1 d5 rules hrw (w1.heap.size + 1) (w1.heap.size + 1 + 1) v (fun r => r < w.heap.size ∨ r = w1.heap.size + 1 ∨ r = w1.heap.size + 1 + 1) (.inr (.inl rfl)) (.inr (.inr rfl)) Y (fun r h => by omega) hgY hdY
      (fun X' hh => hv.below (((Holds.of_below hkY).trans2 hh (fun r _ h => .inl h)).below (Nat.le_refl _))))
    (fun _ _ => rfl) (fun r h => by omega) (fun _ _ _ _ _ _ => trivial)
    (TI w w1.heap.size g d rules) (fun _ _ _ => False) (fun k => TI.stable (by omega) (by omega)) (fun _ _ _ _ h _ => h)
    ⟨.slice none 0 0, [], fun _ => False, hcY, World.ownsRow_nil _ _ _ _, fun i u h => by simp at h, fun b h => by simp [Value.ownBlock] at h, fun _ h => h.elim, hkY⟩
    (fun x a' W => ∃ bx, Y.heap.size + 2 ≤ bx ∧ At W bx 78 (ic x) ∧ a' = { tmps := #[.agg #[.int .i64 g, v], .int .i64 d, .pointer (some ⟨w.heap.size, 0, none⟩), undef, .slice none 0 0, .int .i64 0, .pointer (some ⟨w1.heap.size, 0, none⟩), .pointer (some ⟨bx, 0, none⟩), .agg #[.int .i64 g, v], .bool true, .bool false, .bool false, .int .i64 d, .bool true, .bool false, .bool false,
      .agg #[.int .i64 g, v], .int .i64 d, .func (.func 61) #[] #[.pointer (some ⟨w1.heap.size + 1, 0, none⟩), .pointer (some ⟨w1.heap.size + 1 + 1, 0, none⟩)], .agg (ic x), undef, undef, undef, undef, undef, undef], defers := [] })
    (fun x a W W' hh ⟨bx, h1, h2, h3⟩ => ⟨bx, h1, h2.holds hh (by omega), h3⟩) ?assign ?body ?done ?stop
  case assign =>
    intro l' j x M1 Z hx _ _ hsz
    have hxk := wins_ok g d d5 rules x (List.mem_of_getElem? hx)
    have hxl := hxk.1.1
    have Hx := Lib.hid hxk
    have Hxl := Lib.hid hxl
    have HYs := Lib.hid hYs
    clear hYs hx hxk hxl
    gi_wp2_with (refine in_store_row rfl 78 _ _ rfl Z.heap.size (ic x) rfl rfl 78 (ic (w0 0 0)) (At.new Z 78 (ic (w0 0 0))) (sizeW _ Hxl.out) (by rw [ic_size, ic_size, Hxl.out]; rfl) (ic_one _) ?_)
    refine ⟨Holds.mono (Holds.row (K := fun r => r ≠ Z.heap.size) ((Holds.refl _ Z).alloc _) _ (by simp) _) (fun r hr _ => by omega), Z.heap.size, hsz, (At.new Z 78 (ic (w0 0 0))).row (ic x), rfl⟩
  case body =>
    rintro l' j x M1 a' Z hx ⟨vt, us, N, hc, hown, hus, hvM, hNM, hbel⟩ hM1 hKin _ ⟨bx, hbx, hwx, rfl⟩ hsz
    have hj := (List.getElem?_eq_some_iff.1 hx).1
    have hxk := wins_ok g d d5 rules x (List.mem_of_getElem? hx)
    have HYs := Lib.hid hYs
    have Hx := Lib.hid hx
    have Hxk := Lib.hid hxk
    clear hYs hx hxk
    obtain ⟨i0, hi, hz0, hz1, hz2⟩ := info_parts infoT
    have B1 : j + 1 ≤ maxLen := by unfold maxLen; omega
    have B2 : (j + 1) * 24 ≤ 140737488355328 := by omega
    have cZ := hc.cell 0
    simp only [List.getElem?_toArray, List.getElem?_cons_zero] at cZ
    gi_wp2_with fail
    refine wpIn_region_any (by kernel_rfl) ?_
    change wpAnyIn _ _ _ _ _ _ _ _ _ (World.drew _)
    refine wpAnyIn_ready (rs := [0, 1]) (by kernel_rfl) (by simp) ?_
    refine AllReadyIn.cons rfl (fun K hK => ?_) ?_
    · go_simp
      refine hK _ _ ?_
      clear hK K
      refine wpAnyIn_ready (rs := [1]) (by kernel_rfl) (by simp) ?_
      refine AllReadyIn.cons rfl (fun K hK => ?_) ?_
      · refine si_load_row rfl 78 _ rfl bx rfl 78 (ic x) _ (At.drew hwx) Try.underlying78 rfl (sizeW _ Hxk.out.1.1) ?_
        refine hK _ _ ?_
        clear hK K
        refine wpAnyIn_ready (rs := [2]) (by kernel_rfl) (by simp) ?_
        refine AllReadyIn.cons rfl (fun K hK => ?_) ?_
        · (go_simp; refine ⟨trivial, ((callsIn_wide.2 (columns_c x Hxk.out.1 g Hxk.out.2.1 hg d Hxk.out.2.2 d1 d5 _)).inRound l').mono ?_⟩; rintro e w2 ⟨vc, rfl, hrc, hb2⟩; obtain ⟨Ac, cc, rfl, hrest⟩ := id hrc; have Hrest := Lib.hid hrest; clear hrest; have hbZ : Keeps Z w2 := Keeps.next (Below.refl _ Z).drew hb2; have cW := (hc.later hbZ).cell 0; have cA := fun o => ((hc.later hbZ).alloc o).cell 0; simp only [List.getElem?_toArray, List.getElem?_cons_zero] at cW cA)
          refine hK _ _ ?_
          clear hK K
          refine wpAnyIn_ready (rs := [3]) (by kernel_rfl) (by simp) ?_
          refine AllReadyIn.cons rfl (fun K hK => ?_) ?_
          · go_simp
            refine hK _ _ ?_
            clear hK K
            refine wpAnyIn_ready (rs := [4]) (by kernel_rfl) (by simp) ?_
            refine AllReadyIn.cons rfl (fun K hK => ?_) ?_
            · (refine si_append_lies rfl (.tmp 20) (.tmp 23) 43 rfl w.heap.size 49 i0 (.slice none 0 0) 1 24 Try.underlying43 hi hz0 hz1 hz2 rfl (by decide) vt j us rfl ((own_later hown hbZ).alloc _) _ 1 1 [.slice Ac (colsW x g d).length cc] rfl rfl (new_cells _ _ _ _ rfl) (by simp [Value.oneCell']) (by decide) B1 B2 (by have := hbel.size; have := hbZ.size; simp; omega) ?_; intro g4 cap4 w4 hown' hgrow hg4 hg4l; have h4 := ((hc.later hbZ).alloc _).grown hgrow (own_ne (own_later hown hbZ) (hc.later hbZ) (by decide)); have c4 := h4.cell 0; have f4 := h4.frozen 0; simp only [List.getElem?_toArray, List.getElem?_cons_zero] at c4)
              refine hK _ _ ?_
              clear hK K
              refine wpAnyIn_ready (rs := [5]) (by kernel_rfl) (by simp) ?_
              refine AllReadyIn.cons rfl (fun K hK => ?_) ?_
              · go_simp
                refine hK _ _ ?_
                clear hK K
                refine wpAnyIn_done (by kernel_rfl) ?_ _
                gi_wp2_with fail
                have hYs := HYs.out
                exact TI.next (K := fun r => r < w.heap.size ∨ r = w1.heap.size + 1 ∨ r = w1.heap.size + 1 + 1) (S := Y.heap.size) Hx.out hus hown hvM hNM hbel hM1 (by omega) (by omega) (by omega) (fun r h => by omega) hw1s hbZ hrc hown' hgrow h4 hg4 hg4l
              exact AllReadyIn.nil
            exact AllReadyIn.nil
          exact AllReadyIn.nil
        exact AllReadyIn.nil
      exact AllReadyIn.nil
    refine AllReadyIn.cons rfl (fun K hK => ?_) ?_
    · refine si_load_row rfl 78 _ rfl bx rfl 78 (ic x) _ (At.drew hwx) Try.underlying78 rfl (sizeW _ Hxk.out.1.1) ?_
      refine hK _ _ ?_
      clear hK K
      refine wpAnyIn_ready (rs := [0, 2]) (by kernel_rfl) (by simp) ?_
      refine AllReadyIn.cons rfl (fun K hK => ?_) ?_
      · go_simp
        refine hK _ _ ?_
        clear hK K
        refine wpAnyIn_ready (rs := [2]) (by kernel_rfl) (by simp) ?_
        refine AllReadyIn.cons rfl (fun K hK => ?_) ?_
        · (go_simp; refine ⟨trivial, ((callsIn_wide.2 (columns_c x Hxk.out.1 g Hxk.out.2.1 hg d Hxk.out.2.2 d1 d5 _)).inRound l').mono ?_⟩; rintro e w2 ⟨vc, rfl, hrc, hb2⟩; obtain ⟨Ac, cc, rfl, hrest⟩ := id hrc; have Hrest := Lib.hid hrest; clear hrest; have hbZ : Keeps Z w2 := Keeps.next (Below.refl _ Z).drew hb2; have cW := (hc.later hbZ).cell 0; have cA := fun o => ((hc.later hbZ).alloc o).cell 0; simp only [List.getElem?_toArray, List.getElem?_cons_zero] at cW cA)
          refine hK _ _ ?_
          clear hK K
          refine wpAnyIn_ready (rs := [3]) (by kernel_rfl) (by simp) ?_
          refine AllReadyIn.cons rfl (fun K hK => ?_) ?_
          · go_simp
            refine hK _ _ ?_
            clear hK K
            refine wpAnyIn_ready (rs := [4]) (by kernel_rfl) (by simp) ?_
            refine AllReadyIn.cons rfl (fun K hK => ?_) ?_
            · (refine si_append_lies rfl (.tmp 20) (.tmp 23) 43 rfl w.heap.size 49 i0 (.slice none 0 0) 1 24 Try.underlying43 hi hz0 hz1 hz2 rfl (by decide) vt j us rfl ((own_later hown hbZ).alloc _) _ 1 1 [.slice Ac (colsW x g d).length cc] rfl rfl (new_cells _ _ _ _ rfl) (by simp [Value.oneCell']) (by decide) B1 B2 (by have := hbel.size; have := hbZ.size; simp; omega) ?_; intro g4 cap4 w4 hown' hgrow hg4 hg4l; have h4 := ((hc.later hbZ).alloc _).grown hgrow (own_ne (own_later hown hbZ) (hc.later hbZ) (by decide)); have c4 := h4.cell 0; have f4 := h4.frozen 0; simp only [List.getElem?_toArray, List.getElem?_cons_zero] at c4)
              refine hK _ _ ?_
              clear hK K
              refine wpAnyIn_ready (rs := [5]) (by kernel_rfl) (by simp) ?_
              refine AllReadyIn.cons rfl (fun K hK => ?_) ?_
              · go_simp
                refine hK _ _ ?_
                clear hK K
                refine wpAnyIn_done (by kernel_rfl) ?_ _
                gi_wp2_with fail
                have hYs := HYs.out
                exact TI.next (K := fun r => r < w.heap.size ∨ r = w1.heap.size + 1 ∨ r = w1.heap.size + 1 + 1) (S := Y.heap.size) Hx.out hus hown hvM hNM hbel hM1 (by omega) (by omega) (by omega) (fun r h => by omega) hw1s hbZ hrc hown' hgrow h4 hg4 hg4l
              exact AllReadyIn.nil
            exact AllReadyIn.nil
          exact AllReadyIn.nil
        exact AllReadyIn.nil
      refine AllReadyIn.cons rfl (fun K hK => ?_) ?_
      · (go_simp; refine ⟨trivial, ((callsIn_wide.2 (columns_c x Hxk.out.1 g Hxk.out.2.1 hg d Hxk.out.2.2 d1 d5 _)).inRound l').mono ?_⟩; rintro e w2 ⟨vc, rfl, hrc, hb2⟩; obtain ⟨Ac, cc, rfl, hrest⟩ := id hrc; have Hrest := Lib.hid hrest; clear hrest; have hbZ : Keeps Z w2 := Keeps.next (Below.refl _ Z).drew hb2; have cW := (hc.later hbZ).cell 0; have cA := fun o => ((hc.later hbZ).alloc o).cell 0; simp only [List.getElem?_toArray, List.getElem?_cons_zero] at cW cA)
        refine hK _ _ ?_
        clear hK K
        refine wpAnyIn_ready (rs := [0, 3]) (by kernel_rfl) (by simp) ?_
        refine AllReadyIn.cons rfl (fun K hK => ?_) ?_
        · go_simp
          refine hK _ _ ?_
          clear hK K
          refine wpAnyIn_ready (rs := [3]) (by kernel_rfl) (by simp) ?_
          refine AllReadyIn.cons rfl (fun K hK => ?_) ?_
          · go_simp
            refine hK _ _ ?_
            clear hK K
            refine wpAnyIn_ready (rs := [4]) (by kernel_rfl) (by simp) ?_
            refine AllReadyIn.cons rfl (fun K hK => ?_) ?_
            · (refine si_append_lies rfl (.tmp 20) (.tmp 23) 43 rfl w.heap.size 49 i0 (.slice none 0 0) 1 24 Try.underlying43 hi hz0 hz1 hz2 rfl (by decide) vt j us rfl ((own_later hown hbZ).alloc _) _ 1 1 [.slice Ac (colsW x g d).length cc] rfl rfl (new_cells _ _ _ _ rfl) (by simp [Value.oneCell']) (by decide) B1 B2 (by have := hbel.size; have := hbZ.size; simp; omega) ?_; intro g4 cap4 w4 hown' hgrow hg4 hg4l; have h4 := ((hc.later hbZ).alloc _).grown hgrow (own_ne (own_later hown hbZ) (hc.later hbZ) (by decide)); have c4 := h4.cell 0; have f4 := h4.frozen 0; simp only [List.getElem?_toArray, List.getElem?_cons_zero] at c4)
              refine hK _ _ ?_
              clear hK K
              refine wpAnyIn_ready (rs := [5]) (by kernel_rfl) (by simp) ?_
              refine AllReadyIn.cons rfl (fun K hK => ?_) ?_
              · go_simp
                refine hK _ _ ?_
                clear hK K
                refine wpAnyIn_done (by kernel_rfl) ?_ _
                gi_wp2_with fail
                have hYs := HYs.out
                exact TI.next (K := fun r => r < w.heap.size ∨ r = w1.heap.size + 1 ∨ r = w1.heap.size + 1 + 1) (S := Y.heap.size) Hx.out hus hown hvM hNM hbel hM1 (by omega) (by omega) (by omega) (fun r h => by omega) hw1s hbZ hrc hown' hgrow h4 hg4 hg4l
              exact AllReadyIn.nil
            exact AllReadyIn.nil
          exact AllReadyIn.nil
        refine AllReadyIn.cons rfl (fun K hK => ?_) ?_
        · go_simp
          refine hK _ _ ?_
          clear hK K
          refine wpAnyIn_ready (rs := [0]) (by kernel_rfl) (by simp) ?_
          refine AllReadyIn.cons rfl (fun K hK => ?_) ?_
          · go_simp
            refine hK _ _ ?_
            clear hK K
            refine wpAnyIn_ready (rs := [4]) (by kernel_rfl) (by simp) ?_
            refine AllReadyIn.cons rfl (fun K hK => ?_) ?_
            · (refine si_append_lies rfl (.tmp 20) (.tmp 23) 43 rfl w.heap.size 49 i0 (.slice none 0 0) 1 24 Try.underlying43 hi hz0 hz1 hz2 rfl (by decide) vt j us rfl ((own_later hown hbZ).alloc _) _ 1 1 [.slice Ac (colsW x g d).length cc] rfl rfl (new_cells _ _ _ _ rfl) (by simp [Value.oneCell']) (by decide) B1 B2 (by have := hbel.size; have := hbZ.size; simp; omega) ?_; intro g4 cap4 w4 hown' hgrow hg4 hg4l; have h4 := ((hc.later hbZ).alloc _).grown hgrow (own_ne (own_later hown hbZ) (hc.later hbZ) (by decide)); have c4 := h4.cell 0; have f4 := h4.frozen 0; simp only [List.getElem?_toArray, List.getElem?_cons_zero] at c4)
              refine hK _ _ ?_
              clear hK K
              refine wpAnyIn_ready (rs := [5]) (by kernel_rfl) (by simp) ?_
              refine AllReadyIn.cons rfl (fun K hK => ?_) ?_
              · go_simp
                refine hK _ _ ?_
                clear hK K
                refine wpAnyIn_done (by kernel_rfl) ?_ _
                gi_wp2_with fail
                have hYs := HYs.out
                exact TI.next (K := fun r => r < w.heap.size ∨ r = w1.heap.size + 1 ∨ r = w1.heap.size + 1 + 1) (S := Y.heap.size) Hx.out hus hown hvM hNM hbel hM1 (by omega) (by omega) (by omega) (fun r h => by omega) hw1s hbZ hrc hown' hgrow h4 hg4 hg4l
              exact AllReadyIn.nil
            exact AllReadyIn.nil
          exact AllReadyIn.nil
        exact AllReadyIn.nil
      exact AllReadyIn.nil
    exact AllReadyIn.nil
  case done =>
    rintro M1 Z ⟨vt, us, N, hc, hown, hus, hvM, hNM, hbel⟩ hK hM1
    have cc := hc.cell 0
    simp only [List.getElem?_toArray, List.getElem?_cons_zero] at cc
    have HYs := Lib.hid hYs
    have HK := Lib.hid hK
    clear hYs hK
    gi_wp2
    have hYs := HYs.out
    refine ⟨by simp, .inl ⟨_, _, rfl, run_takeDeferred HK.out, ?_⟩⟩
    have hp : Holds (fun r => r ≠ Y.heap.size) Z (Z.putObj Y.heap.size (.deferred none)) := (Holds.refl _ Z).put _ (by simp) _
    refine ⟨_, results_tmp2 Try.results19 _ _ _, vt, rfl, ?_, ((Holds.of_below hbel).put _ (by omega) _).below (Nat.le_refl _)⟩
    have hown2 := own_holds hown hp (fun b hb => by have := (hM1 b (hvM b hb).1).1; omega)
    rw [show (wins g d rules).length = ((wins g d rules).map fun x => colsW x g d).length from by simp] at hown2
    refine own_list hown2 (by unfold maxLen; simp; omega) (fun i u hu => ?_)
    obtain ⟨x, hx, hr⟩ := hus i u hu
    exact ⟨_, by rw [List.getElem?_map, hx]; rfl, hr.to hp (fun b _ h => by have := (hM1 b (hNM b h)).1; exact ⟨by omega, by omega⟩)⟩
  case stop =>
    rintro j M1 Z h _ _
    exact h.elim

def tabsN (g d : Int) (rules : List ByteArray) : List (List (List Int)) := if goodB g d rules = true then (wins g.toNat d.toNat rules).map fun x => colsW x g.toNat d.toNat else []
set_option maxHeartbeats 2000000 in
theorem tables_no (g d : Int) (v : Value) (rules : List ByteArray) (hz : szOk rules) (hG : goodB g d rules = false) (w : World) (hv : RdS w v rules) :
    Calls Try.prog 19 #[.agg #[.int .i64 g, v], .int .i64 d] w fun e w' => e = .returned (.tuple #[.slice none 0 0, .int .i64 2]) ∧ Keeps w w' := by
  have hvb := fun o => hv.below (Keeps.alloc (Below.refl _ w) o)
  by_cases hg : groupB g rules = true
  · have hs : sheetsB d = false := by simpa [goodB, hg] using hG
    go_enter Try.func19, Try.ntmps19
    go_wp2_with (first | (go_at_call 35; refine (isGroup_c g v rules hz _ (hvb _)).mono ?_; rintro e w1 ⟨rfl, hb1⟩) | (go_at_call 36; refine (isSheets_c d _).mono ?_; rintro e w2 ⟨rfl, rfl⟩))
    go_ret2
    exact ⟨rfl, Keeps.next (Keeps.alloc (Below.refl _ w) _) hb1⟩
  · have hg' : groupB g rules = false := by simpa using hg
    go_enter Try.func19, Try.ntmps19
    go_wp2_with (first | (go_at_call 35; refine (isGroup_c g v rules hz _ (hvb _)).mono ?_; rintro e w1 ⟨rfl, hb1⟩))
    go_ret2
    exact ⟨rfl, Keeps.next (Keeps.alloc (Below.refl _ w) _) hb1⟩
theorem tables_c (g d : Int) (v : Value) (rules : List ByteArray) (hz : szOk rules) (w : World) (hv : RdS w v rules) :
    Calls Try.prog 19 #[.agg #[.int .i64 g, v], .int .i64 d] w fun e w' => ∃ vt, e = .returned (.tuple #[vt, .int .i64 (codeN (goodB g d rules))]) ∧ RdLB (fun r => w.heap.size ≤ r) w' vt (tabsN g d rules) ∧ Keeps w w' := by
  by_cases hG : goodB g d rules = true
  · have hg : groupB g rules = true := by simp [goodB] at hG; exact hG.1
    have hs : sheetsB d = true := by simp [goodB] at hG; exact hG.2
    have hgp := (groupB_parts _ _ hg).1
    have hsp : 1 ≤ d ∧ d ≤ 5 := by simpa [sheetsB] using hs
    have h := tables_yes g.toNat d.toNat (by omega) (by omega) (by omega) v rules hz (by rw [Int.toNat_of_nonneg (by omega)]; exact hg) w hv
    rw [Int.toNat_of_nonneg (by omega), Int.toNat_of_nonneg (by omega)] at h
    refine h.mono ?_
    rintro e w' ⟨vt, rfl, hr, hb⟩
    exact ⟨vt, by simp [codeN, hG], by simpa [tabsN, hG] using hr, hb⟩
  · have hG' : goodB g d rules = false := by simpa using hG
    refine (tables_no g d v rules hz hG' w hv).mono ?_
    rintro e w' ⟨rfl, hb⟩
    exact ⟨.slice none 0 0, by simp [codeN, hG'], ⟨none, 0, by simp [tabsN, hG'], by unfold maxLen; simp [tabsN, hG'], fun k hk => by simp [tabsN, hG'] at hk⟩, hb⟩
end Go.Proofs.Ytikedhkibdeheaa
