/- The walk of cutter: the first proper side that cuts every edge. -/
import Derived.Test.YtngonghgkeobhaaBn
import Derived.Test.YtngonghgkeobhaaBk
import Derived.Scope
import Derived.WalkMore
namespace Go.Proofs.Ytngonghgkeobhaa
open Go.RowKit Go.Shelf
set_option linter.unusedVariables false
set_option linter.unusedSimpArgs false
attribute [local go_sem] Oper.semAt_some

/-- A side cuts an edge; all edges. -/
def ctB (s : Nat) (x : Ed) : Bool := hs s x.1.toNat != hs s x.2.1.toNat
def cutB (s : Nat) (l : List Ed) : Bool := l.all (ctB s)
theorem cut_no {s : Nat} {l : List Ed} {k : Nat} {x : Ed} (h : l[k]? = some x) (hc : ctB s x = false) : cutB s l = false := by
  unfold cutB
  exact List.all_eq_false.2 ⟨x, List.mem_of_getElem? h, by simp [hc]⟩
theorem cut_take {s : Nat} {l : List Ed} {k : Nat} {x : Ed} (h : l[k]? = some x) (h1 : (l.take k).all (ctB s) = true) (hc : ctB s x = true) : (l.take (k + 1)).all (ctB s) = true := by
  rw [take_at l k x h, List.all_append, h1]
  simp [hc]
theorem find_fst {α : Type} {p : α → Bool} : ∀ {xs : List α} {q : Nat} {x : α}, xs[q]? = some x → p x = true → (∀ (j : Nat) (y : α), j < q → xs[j]? = some y → p y = false) → xs.find? p = some x
  | [], _, _, h, _, _ => by simp at h
  | a :: xs, 0, x, h, hp, _ => by
    obtain rfl : a = x := by simpa using h
    rw [List.find?_cons, hp]
  | a :: xs, q + 1, x, h, hp, hn => by
    rw [List.find?_cons, hn 0 a (by omega) rfl]
    exact find_fst (q := q) (by simpa using h) hp fun j y hj hy => hn (j + 1) y (by omega) (by simpa using hy)
theorem find_nil {α : Type} {p : α → Bool} {xs : List α} (hn : ∀ (j : Nat) (y : α), j < xs.length → xs[j]? = some y → p y = false) : xs.find? p = none := by
  rw [List.find?_eq_none]
  intro x hx
  obtain ⟨i, hi, rfl⟩ := List.getElem_of_mem hx
  rw [hn i _ hi (List.getElem?_eq_getElem hi)]
  simp
/-- Two results in cells. -/
theorem results_2c {P : Program} {fn : Func} {u v : Tmp} {t2 t3 : TypeId} (hr : fn.results = #[.cell u t2, .cell v t3]) (tmps : Array Value) (w : World) (g2 g3 : Nat) (x y : Value)
    (hu : tmps.getD u undef = .pointer (some ⟨g2, 0, none⟩)) (hv : tmps.getD v undef = .pointer (some ⟨g3, 0, none⟩))
    (h2 : w.cell? ⟨g2, 0, none⟩ = some x) (h3 : w.cell? ⟨g3, 0, none⟩ = some y) (a2 : (isAgg t2).run P w = .ok false w) (a3 : (isAgg t3).run P w = .ok false w) : (results fn tmps).run P w = .ok (.tuple #[x, y]) w := by
  have hu' : tmps[u]?.getD undef = .pointer (some ⟨g2, 0, none⟩) := by simpa using hu
  have hv' : tmps[v]?.getD undef = .pointer (some ⟨g3, 0, none⟩) := by simpa using hv
  have e2 : (loadVar t2 ⟨g2, 0, none⟩).run P w = .ok x w := by simp [loadVar, Sem.run_bind, a2, load, Sem.run, h2, Result.andThen]
  have e3 : (loadVar t3 ⟨g3, 0, none⟩).run P w = .ok y w := by simp [loadVar, Sem.run_bind, a3, load, Sem.run, h3, Result.andThen]
  simp [results, hr, hu', hv', asAddr, Sem.run_bind, e2, e3, Result.andThen]
/-- What cutter answers. -/
def CutR (f : Option Nat) (e : Ending) : Prop := (f = none ∧ e = .returned (.tuple #[.int .u16 0, .bool false])) ∨ ∃ x, f = some x ∧ e = .returned (.tuple #[.int .u16 x, .bool true])
structure CutX (w : World) (f : Option Nat) (Z : World) : Prop where
  ex : ∃ x : Nat, f = some x ∧ At Z (w.heap.size + 1) 60 #[.int .u16 x]
  h2 : At Z (w.heap.size + 1 + 1) 4 #[.bool true]
  hk : Below w.heap.size w Z
set_option maxHeartbeats 2000000 in
set_option maxRecDepth 100000 in
theorem cutter_c (v : Nat) (hv : v < 12) (g : Nat) (V : Value) (J : List Int) (l : List Ed) (hl : edgesOk l) (w : World) (hg : At w g 103 (gc ((v : Int) + 1) V J)) (hV : RdE w V l) :
    Calls Try.prog 48 #[.pointer (some ⟨g, 0, none⟩)] w fun e w' => CutR ((prp v).find? (fun s => cutB s l)) e ∧ Keeps w w' := by
  have hgl := hg.lt
  refine (callsIn_wide (n := 5)).1 ?_
  refine callsIn_of_wp_marks Try.func48 rfl trivial ?_ rfl
  simp only [Try.ntmps48, List.size_toArray, List.length_cons, List.length_nil, Nat.reduceAdd, Nat.reduceSub, Array.replicate_succ, Array.replicate_zero, List.push_toArray, List.append_toArray, List.nil_append, List.cons_append]
  have hpc := fun z => properSides_c v z
  gi_wp2_with fail
  obtain ⟨Y, hY⟩ : ∃ Y, ((w.alloc (.cells #[.pointer (some ⟨g, 0, none⟩)] 58)).alloc (.cells #[.int .u16 0] 60)).alloc (.cells #[.bool false] 4) = Y := ⟨_, rfl⟩
  have hYs : Y.heap.size = w.heap.size + 3 := by rw [← hY]; simp
  have hpY : At Y w.heap.size 58 #[.pointer (some ⟨g, 0, none⟩)] := by rw [← hY]; exact ((At.new w _ _).alloc _).alloc _
  have hbY : At Y (w.heap.size + 1) 60 #[.int .u16 0] := by rw [← hY]; exact (At.new2 w _ _ _).alloc _
  have hgY : At Y (w.heap.size + 1 + 1) 4 #[.bool false] := by rw [← hY]; exact At.new' _ _ (by simp) _ _
  have hkY : Keeps w Y := by rw [← hY]; exact Keeps.alloc (Keeps.alloc (Keeps.alloc (Below.refl _ _) _) _) _
  rw [hY]
  clear hY
  have cn0 : Y.cell? ⟨g, 0, none⟩ = some (.int .i64 ((v : Int) + 1)) := by
    have := (hg.later hkY).cell 0
    simpa [gc] using this
  have cp0 := hpY.cell 0
  simp only [List.getElem?_toArray, List.getElem?_cons_zero] at cp0
  refine wpIn_wide.2 (wp_scope_straight ((wpIn_wide (n := 5)).1 ?_))
  refine wpIn_seq (wpIn_label ?_)
  change Code.wpIn _ _ _ _ _ _ _
  have HYs0 := Lib.hid hYs
  clear hYs
  gi_wp2_with fail
  refine ⟨trivial, (callsIn_wide.2 (hpc _)).mono ?_⟩
  rintro e w1 ⟨rfl, rfl⟩
  have hYs := HYs0.out
  clear cn0 cp0 HYs0
  gi_wp2_with fail
  obtain ⟨X, hX⟩ : ∃ X, (Y.alloc (.cells #[.int .i64 ((v : Int) + 1)] 3)).alloc (.cells #[.int .u16 2048] 60) = X := ⟨_, rfl⟩
  have hXs : X.heap.size = Y.heap.size + 2 := by rw [← hX]; simp
  have a1X : At X (Y.heap.size + 1) 60 #[.int .u16 2048] := by rw [← hX]; exact At.new2 Y _ _ _
  have a2X : At X Y.heap.size 3 #[.int .i64 ((v : Int) + 1)] := by rw [← hX]; exact (At.new Y _ _).alloc _
  have hYX : Keeps Y X := by rw [← hX]; exact Keeps.alloc (Keeps.alloc (Below.refl _ _) _) _
  rw [hX]
  clear hX
  have hkX := hkY.next hYX
  have hpX := hpY.later hYX
  have hbX := hbY.later hYX
  have hgX := hgY.later hYX
  have hm : 2 ^ v * bt v ≤ 4096 := by rw [pow_bt v hv]; decide
  have hit := sides_iter v (2 ^ v) hv hm (Y.heap.size + 1) Y.heap.size (fun r => r = Y.heap.size + 1 ∨ r = Y.heap.size) (.inl rfl) (.inr rfl) X (fun r h => by omega) (by rw [pow_bt v hv]; exact a1X) a2X
  have hsx : ∀ (j x : Nat), (prp v)[j]? = some x → x < 65536 := fun j x h => sds_lt _ _ hm x (List.mem_of_getElem? h)
  change Iter _ _ _ _ _ _ (prp v) _ at hit
  obtain ⟨xs, hxs⟩ : ∃ xs, xs = prp v := ⟨_, rfl⟩
  simp only [← hxs] at hit hsx
  have Hxs := Lib.hid hxs
  clear hxs
  rw [hYs] at hit hXs
  clear hm a1X a2X hYX hYs hkY hpY hbY hgY hpc
  refine range_mine xs (gf := 68) (lb := #[.pointer (some ⟨w.heap.size + 3 + 1, 0, none⟩), .pointer (some ⟨w.heap.size + 3, 0, none⟩)]) rfl (enters_of Try.func68 (by kernel_rfl) rfl)
    hit (fun _ _ => rfl) (fun r h => by omega) (fun _ _ _ _ _ _ => trivial)
    (fun j M Z => (∀ (i : Nat) (y : Nat), i < j → xs[i]? = some y → cutB y l = false) ∧ At Z w.heap.size 58 #[.pointer (some ⟨g, 0, none⟩)] ∧ At Z (w.heap.size + 1) 60 #[.int .u16 0] ∧ At Z (w.heap.size + 1 + 1) 4 #[.bool false] ∧ Below w.heap.size w Z)
    (fun _ M Z => CutX w (xs.find? fun s => cutB s l) Z)
    (fun j M Z Z' ⟨h0, h1, h2, h3, h5⟩ hh => ⟨h0, h1.holds hh (.inl (by omega)), h2.holds hh (.inl (by omega)), h3.holds hh (.inl (by omega)), ((Holds.of_below h5).trans2 hh (fun r _ h => .inl (by omega))).below (Nat.le_refl _)⟩)
    (fun j M Z Z' ⟨⟨x, h0, h1⟩, h2, h3⟩ hh => ⟨⟨x, h0, h1.holds hh (.inl (by omega))⟩, h2.holds hh (.inl (by omega)), ((Holds.of_below h3).trans2 hh (fun r _ h => .inl (by omega))).below (Nat.le_refl _)⟩)
    ⟨fun i y h => by omega, hpX, hbX, hgX, hkX⟩
    (fun x a' _ => a' = { tmps := #[.pointer (some ⟨g, 0, none⟩), .pointer (some ⟨w.heap.size, 0, none⟩), .pointer (some ⟨w.heap.size + 1, 0, none⟩), .pointer (some ⟨w.heap.size + 1 + 1, 0, none⟩), .int .u16 x, undef, undef, .pointer (some ⟨g, 0, none⟩), .pointer (some ⟨g, 0, none⟩), .pointer (some ⟨g, 0, none⟩), .int .i64 ((v : Int) + 1),
      .func (.func 68) #[] #[.pointer (some ⟨w.heap.size + 3 + 1, 0, none⟩), .pointer (some ⟨w.heap.size + 3, 0, none⟩)], .int .u16 x, undef, undef, undef, undef, undef, undef, undef, undef, undef, undef, undef, undef, undef, undef, undef], defers := [] })
    (fun _ _ _ _ _ h => h) ?assign ?body ?done ?stop
  case assign =>
    intro l' j x M1 Z _ _ _ hsz
    have HXs := Lib.hid hXs
    clear hXs
    simp only [encB]
    gi_wp2
    exact ⟨Holds.refl _ _, trivial⟩
  case body =>
    rintro l' j x M1 a' Z hx ⟨hno, hp, hb, hgt, hbel⟩ hM1 hKin _ rfl hsz
    have hxl := hsx j x hx
    have cp := hp.cell 0
    simp only [List.getElem?_toArray, List.getElem?_cons_zero] at cp
    have cV : Z.cell? ⟨g, 1, none⟩ = some V := gc_edges (hg.later hbel)
    obtain ⟨A, c, rfl, hmx, hcs⟩ := RdE.below hV hbel
    have HXs := Lib.hid hXs
    have Hno := Lib.hid hno
    have Hx := Lib.hid hx
    clear hXs hno hx hsx hit
    unfold maxLen at hmx
    gi_wp2_with fail
    have Hp := Lib.hid hp
    have hXz : X.heap.size + 2 ≤ Z.heap.size := by first | exact hsz | omega
    clear cp cV hp
    gi_loopw [18] (fun i wr => ∃ k : Nat, k ≤ l.length ∧ i = .int .i64 k ∧ (l.take k).all (ctB x) = true ∧ Keeps Z wr) (fun i _ => l.length - (intOf i).toNat)
    case atStart => exact ⟨0, Nat.zero_le _, rfl, by simp, Below.refl _ _⟩
    case round =>
      obtain ⟨k, hk, rfl, hall, hbz⟩ := hrel
      have Hall := Lib.hid hall
      clear hall
      by_cases hlt : k < l.length
      · obtain ⟨y, hy⟩ : ∃ y, l[k]? = some y := ⟨_, List.getElem?_eq_getElem hlt⟩
        obtain ⟨b, off, rfl, c1, c2, c3⟩ := hcs k y hy
        have hxm := hl.2 y (List.mem_of_getElem? hy)
        have c1 := cell_keep c1 hbz
        have c2 := cell_keep c2 hbz
        have c3 := cell_keep c3 hbz
        have hkI : (k : Int) < (l.length : Int) := by omega
        have Hy := Lib.hid hy
        clear hcs hy
        obtain ⟨ya, yb, yc⟩ := y
        simp only at hxm c1 c2 c3
        obtain ⟨a, rfl⟩ := Int.eq_ofNat_of_zero_le hxm.1
        obtain ⟨b', rfl⟩ := Int.eq_ofNat_of_zero_le hxm.2.2.1
        have cc := fun z => cuts_c x a b' yc (by omega) (by omega) hxl z
        have hct : ctB x ((a : Int), (b' : Int), yc) = (hs x a != hs x b') := by simp [ctB]
        have e1 : At (wr.alloc (.cells #[.int .i64 a, .int .i64 b', .int .i64 yc] 28)) wr.heap.size 28 (ev ((a : Int), (b' : Int), yc)) := At.new _ _ _
        have k1 : Keeps Z (wr.alloc (.cells #[.int .i64 a, .int .i64 b', .int .i64 yc] 28)) := Keeps.alloc hbz _
        have Hct := Lib.hid hct
        clear hct
        gi_wp2_with fail
        cases ht : (hs x a != hs x b')
        · rw [ht] at cc
          have Hcn := Lib.hid (cut_no (s := x) Hy.out (by rw [Hct.out, ht]))
          clear ht c1 c2 c3 e1
          refine ⟨trivial, ((callsIn_wide.2 (cc _)).inRound l').mono ?_⟩
          rintro e w2 ⟨rfl, hk2⟩
          gi_wp2_with fail
          have hZ2 := k1.next hk2
          have hz2 := hZ2.size
          have hX3 := HXs.out
          refine ⟨M1, fun r hr => Nat.lt_of_lt_of_le (hM1 r hr).2 hz2, fun r h => .inl h, Holds.of_keeps hZ2 _, ?_, Hp.out.later hZ2, hb.later hZ2, hgt.later hZ2, Keeps.next hbel hZ2⟩
          intro i y hi hy
          by_cases h : i < j
          · exact Hno.out i y h hy
          · obtain rfl : i = j := by omega
            rw [Hx.out] at hy
            cases hy
            exact Hcn.out
        · rw [ht] at cc
          have Hcy := Lib.hid (cut_take (s := x) Hy.out Hall.out (by rw [Hct.out, ht]))
          clear ht c1 c2 c3 e1
          refine ⟨trivial, ((callsIn_wide.2 (cc _)).inRound l').mono ?_⟩
          rintro e w2 ⟨rfl, hk2⟩
          gi_wp2_with fail
          go_roundw
          case rel => exact ⟨k + 1, by omega, by go_num, Hcy.out, k1.next hk2⟩
          case measure => simp [intOf]; omega
      · obtain rfl : k = l.length := by omega
        have hkI : decide ((l.length : Int) < (l.length : Int)) = false := by simp
        have hbz2 := hb.later hbz
        have hgz2 := hgt.later hbz
        have fb := hbz2.frozen 0
        have cb := hbz2.cell 0
        have fg := hgz2.frozen 0
        have cg := hgz2.cell 0
        simp only [List.getElem?_toArray, List.getElem?_cons_zero] at cb cg
        have Hf := Lib.hid (find_fst (p := fun s => cutB s l) Hx.out (by have := Hall.out; rw [List.take_length] at this; exact this) Hno.out)
        have hlt1 := hgt.lt
        clear hcs
        gi_wp2_with fail
        have hX3 := HXs.out
        have hz2 := hbz.size
        refine ⟨M1, fun r hr => Nat.lt_of_lt_of_le (hM1 r hr).2 (by simpa [World.setCell] using hz2), fun r h => .inl h, ((Holds.of_keeps hbz _).set _ (by simp; omega) _).set _ (by simp; omega) _, ⟨x, Hf.out, ?_⟩, ?_, ?_⟩
        · exact (hbz2.set 0 _).far (by simp) _
        · exact (hgz2.far (by simp) _).set 0 _
        · exact Keeps.setp (Keeps.setp (Keeps.next hbel hbz) _ (by omega) _ _) _ (by omega) _ _
  case done =>
    rintro M1 Z ⟨hno, hp, hb, hgt, hbel⟩ hK hM1
    have cb := hb.cell 0
    have fb := hb.frozen 0
    have cg := hgt.cell 0
    have fg := hgt.frozen 0
    simp only [List.getElem?_toArray, List.getElem?_cons_zero] at cb cg
    have HXs := Lib.hid hXs
    have HK := Lib.hid hK
    have Hf := Lib.hid (find_nil (p := fun s => cutB s l) hno)
    clear hXs hK hno
    gi_wp2_with fail
    rw [Exit.noGoto_ret]
    have hXs := HXs.out
    have hfin : Holds (fun r => r = X.heap.size) Z ((Z.setCell ⟨w.heap.size + 1, 0, none⟩ (.int .u16 0)).setCell ⟨w.heap.size + 1 + 1, 0, none⟩ (.bool false)) := ((Holds.refl _ _).set _ (by simp; omega) _).set _ (by simp; omega) _
    refine ⟨by simp, .inl ⟨_, _, rfl, run_takeDeferred ((hfin.block _ (Array.getElem?_eq_some_iff.1 HK.out).1 rfl).trans HK.out), ?_⟩⟩
    have y1 := ((hb.set 0 (.int .u16 0)).far (p := ⟨w.heap.size + 1 + 1, 0, none⟩) (by simp) (.bool false))
    have y2 := ((hgt.far (p := ⟨w.heap.size + 1, 0, none⟩) (by simp) (.int .u16 0)).set 0 (.bool false))
    have hk4 : Keeps w ((Z.setCell ⟨w.heap.size + 1, 0, none⟩ (.int .u16 0)).setCell ⟨w.heap.size + 1 + 1, 0, none⟩ (.bool false)) := Keeps.setp (Keeps.setp hbel _ (by omega) _ _) _ (by omega) _ _
    generalize (Z.setCell ⟨w.heap.size + 1, 0, none⟩ (.int .u16 0)).setCell ⟨w.heap.size + 1 + 1, 0, none⟩ (.bool false) = X2 at *
    have hfp : Holds (fun r => r ≠ X.heap.size) X2 (X2.putObj X.heap.size (.deferred none)) := (Holds.refl _ _).put _ (by simp) _
    have x1 := (y1.holds hfp (by omega)).cell 0
    have x2 := (y2.holds hfp (by omega)).cell 0
    exact ⟨_, results_2c Try.results48 _ _ (w.heap.size + 1) (w.heap.size + 1 + 1) _ _ rfl rfl x1 x2 (Try.isAgg60 _) (Try.isAgg4 _), .inl ⟨by rw [← Hxs.out]; exact Hf.out, rfl⟩, ((Holds.of_below hk4).trans2 hfp (fun r _ h => by omega)).below (Nat.le_refl _)⟩
  case stop =>
    rintro j M1 Z ⟨⟨x, hf, hb⟩, hgt, hbel⟩ hK hM1
    have HXs := Lib.hid hXs
    have HK := Lib.hid hK
    clear hXs hK
    gi_wp2_with fail
    rw [Exit.noGoto_ret]
    have hXs := HXs.out
    refine ⟨by simp, .inl ⟨_, _, rfl, run_takeDeferred HK.out, ?_⟩⟩
    have hfp : Holds (fun r => r ≠ X.heap.size) Z (Z.putObj X.heap.size (.deferred none)) := (Holds.refl _ _).put _ (by simp) _
    have x1 := (hb.holds hfp (by omega)).cell 0
    have x2 := (hgt.holds hfp (by omega)).cell 0
    exact ⟨_, results_2c Try.results48 _ _ (w.heap.size + 1) (w.heap.size + 1 + 1) _ _ rfl rfl x1 x2 (Try.isAgg60 _) (Try.isAgg4 _), .inr ⟨x, by rw [← Hxs.out]; exact hf, rfl⟩, ((Holds.of_below hbel).trans2 hfp (fun r _ h => by omega)).below (Nat.le_refl _)⟩
end Go.Proofs.Ytngonghgkeobhaa
