/- The program's Switch. -/
import Derived.Test.YtngonghgkeobhaaEi
namespace Go.Proofs.Ytngonghgkeobhaa
open Go.RowKit Go.Shelf
set_option linter.unusedVariables false
set_option linter.unusedSimpArgs false

/-- Storing into a row that one owns. -/
theorem own_put {w : World} {g base cap n size : Nat} {e : TypeId} {xs : List Value} (h : w.ownsRow base e size (.slice (some ⟨g, 0, none⟩) n cap) n xs) (hn : 0 < n) (j : Nat) (u : Value) :
    (w.setCell ⟨g, j, none⟩ u).ownsRow base e size (.slice (some ⟨g, 0, none⟩) n cap) n (xs.set j u) := by
  refine ⟨by rw [List.length_set]; exact h.1, ?_⟩
  rcases h.2 with ⟨hv, h0⟩ | ⟨g', cap', cur, hv, hb, hg, h1, h2, h3, h4⟩
  · omega
  · cases hv
    exact .inr ⟨g, cap, cur.setIfInBounds j u, rfl, hb, At.set hg j u, h1, h2, by rw [Array.size_setIfInBounds]; exact h3, by rw [Array.toList_setIfInBounds, List.take_set, h4]⟩
theorem own_mono {w : World} {base base' size n : Nat} {e : TypeId} {v : Value} {xs : List Value} (h : w.ownsRow base e size v n xs) (hb : base' ≤ base) : w.ownsRow base' e size v n xs := by
  refine ⟨h.1, ?_⟩
  rcases h.2 with h | ⟨g, cap, cur, hv, h1, r⟩
  · exact .inl h
  · exact .inr ⟨g, cap, cur, hv, Nat.le_trans hb h1, r⟩
theorem own_at {w : World} {g base cap n size : Nat} {e : TypeId} {xs : List Value} (h : w.ownsRow base e size (.slice (some ⟨g, 0, none⟩) n cap) n xs) (hn : 0 < n) : ∃ cur : Array Value, At w g e cur ∧ base ≤ g ∧ ∀ (j : Nat) (u : Value), xs[j]? = some u → cur[j]? = some u := by
  rcases h.2 with ⟨hv, h0⟩ | ⟨g', cap', cur, hv, hb, hg, h1, h2, h3, h4⟩
  · omega
  · cases hv
    refine ⟨cur, hg, hb, fun j u hu => ?_⟩
    rw [← h4, List.getElem?_take] at hu
    split at hu
    · simpa using hu
    · cases hu
/-- An edge after switching. -/
def swE (S : Nat) (x : Ed) : Ed := (x.1, x.2.1, if (hs S x.1.toNat != hs S x.2.1.toNat) = true then -x.2.2 else x.2.2)
def swL (S : Nat) (l : List Ed) : List Ed := l.map (swE S)
/-- The first k are switched. -/
def swK (S : Nat) (l : List Ed) (k : Nat) : List Ed := (l.take k).map (swE S) ++ l.drop k
theorem swK_zero (S : Nat) (l : List Ed) : swK S l 0 = l := by simp [swK]
theorem swK_all (S : Nat) (l : List Ed) : swK S l l.length = swL S l := by simp [swK, swL]
theorem swK_len (S : Nat) (l : List Ed) (k : Nat) : (swK S l k).length = l.length := by simp [swK]; omega
theorem swK_at (S : Nat) (l : List Ed) (k : Nat) (x : Ed) (h : l[k]? = some x) : (swK S l k)[k]? = some x := by
  have hk := (List.getElem?_eq_some_iff.1 h).1
  unfold swK
  rw [List.getElem?_append_right (by simp; omega)]
  simp only [List.length_map, List.length_take, List.getElem?_drop]
  rw [show k + (k - min k l.length) = k by omega]
  exact h
theorem swK_succ (S : Nat) (l : List Ed) (k : Nat) (x : Ed) (h : l[k]? = some x) : swK S l (k + 1) = (swK S l k).set k (swE S x) := by
  have hk := (List.getElem?_eq_some_iff.1 h).1
  unfold swK
  rw [take_at l k x h, List.map_append, List.append_assoc, List.set_append_right _ _ (by simp; omega)]
  congr 1
  rw [List.drop_eq_getElem_cons hk]
  simp only [List.length_map, List.length_take]
  rw [show k - min k l.length = 0 by omega]
  rfl
theorem ecs_cons (x : Ed) (l : List Ed) : ecs (x :: l) = [.int .i64 x.1, .int .i64 x.2.1, .int .i64 x.2.2] ++ ecs l := rfl
theorem ecs_set : ∀ (l : List Ed) (k : Nat) (x : Ed) (y : Int), l[k]? = some x → (ecs l).set (k * 3 + 2) (.int .i64 y) = ecs (l.set k (x.1, x.2.1, y))
  | [], k, x, y, h => by cases h
  | z :: l, 0, x, y, h => by cases h; rfl
  | z :: l, k + 1, x, y, h => by
    rw [List.set_cons_succ, ecs_cons, ecs_cons, List.set_append_right _ _ (by simp; omega)]
    congr 1
    rw [show (k + 1) * 3 + 2 - [Value.int .i64 z.1, .int .i64 z.2.1, .int .i64 z.2.2].length = k * 3 + 2 by simp; omega]
    exact ecs_set l k x y (by simpa using h)
theorem set_same {α : Type} (l : List α) (k : Nat) (x : α) (h : l[k]? = some x) : l.set k x = l := by
  apply List.ext_getElem?
  intro i
  rw [List.getElem?_set]
  split
  · rename_i e
    subst e
    rw [h]
    have := (List.getElem?_eq_some_iff.1 h).1
    simp [this]
  · rfl
theorem swE_no (S : Nat) (x : Ed) (h : (hs S x.1.toNat != hs S x.2.1.toNat) = false) : swE S x = x := by unfold swE; rw [h]; rfl
/-- Appending nothing. -/
theorem wpList_append_zero {P : Program} {ops : Array Oper} {rest : List Oper} {o : Oper} {a : Act} {w : World} {Q : Exit → Act → World → Prop} (hgd : o.guard = none) (s x : Operand) (t : TypeId)
    (ho : o.op = .call { callee := .builtin .append, args := #[s, x], argTypes := #[t, t] }) (e : TypeId) (i : TypeInfo) (ht : P.underlying t = some (.slice e)) (hi : P.info? e = some i)
    (B : Addr) (cb : Nat) (hs : a.eval s = .slice (some B) 0 cb) (A : Addr) (c : Nat) (hx : a.eval x = .slice (some A) 0 c) (h : wpList P ops Q rest (a.put o.dst (.slice (some B) 0 cb)) w) : wpList P ops Q (o :: rest) a w := by
  refine wpList_plain hgd fun K hK => ?_
  have hrun : (Builtin.append_ #[t, t] o.type #[.slice (some B) 0 cb, .slice (some A) 0 c]).run P w = .ok (.slice (some B) 0 cb) w := by
    simp [Builtin.append_, run_underlying ht, sizeOf, typeInfo, hi, Builtin.lenOf, Builtin.firstCells, loadCells, loadCellsFrom, storeCells]
  unfold Oper.wp
  simp [execOp, ho, resolve, invoke, builtin, hs, hx, hrun, Result.andThen]
  exact hK _ _ h
theorem rdE_cells {w : World} {b off c : Nat} {l : List Ed} (hv : RdE w (.slice (some ⟨b, off, none⟩) l.length c) l) : ∀ j u, (ecs l)[j]? = some u → w.cell? ((⟨b, off, none⟩ : Addr).add j) = some u := by
  intro j u hu
  obtain ⟨A, c', he, hm, hcs⟩ := hv
  cases he
  have hj := (List.getElem?_eq_some_iff.1 hu).1
  rw [ecs_length] at hj
  have hk : j / 3 < l.length := by omega
  have hx : l[j / 3]? = some l[j / 3] := List.getElem?_eq_getElem hk
  obtain ⟨b', off', hA, q1, q2, q3⟩ := hcs (j / 3) _ hx
  cases hA
  obtain ⟨p1, p2, p3⟩ := ecs_at _ _ _ hx
  rw [show ((⟨b, off, none⟩ : Addr).add j) = ⟨b, off + j, none⟩ from by unfold Addr.add; split <;> simp_all]
  have hr : j = j / 3 * 3 ∨ j = j / 3 * 3 + 1 ∨ j = j / 3 * 3 + 2 := by omega
  rcases hr with e | e | e
  · rw [e] at hu ⊢; rw [p1] at hu; rw [← hu]; exact q1
  · rw [e] at hu ⊢; rw [p2] at hu; rw [← hu, ← Nat.add_assoc]; exact q2
  · rw [e] at hu ⊢; rw [p3] at hu; rw [← hu, ← Nat.add_assoc]; exact q3
set_option maxHeartbeats 1000000 in
set_option maxRecDepth 100000 in
/-- What slices.Clone makes of edges is new. -/
theorem clone_e (v : Value) (l : List Ed) (h41 : l.length ≤ 41) (w : World) (hv : RdE w v l) :
    Calls Try.prog 42 #[v] w fun e w' => ∃ u, e = .returned u ∧ w'.ownsRow w.heap.size 28 3 u l.length (ecs l) ∧ Keeps w w' := by
  obtain ⟨A, c, rfl, hm, hcs⟩ := id hv
  obtain ⟨i0, hi, hz0, hz1, hz2⟩ := info_parts infoEd
  have Hown : Hid ((w.alloc (.cells #[] 28)).ownsRow w.heap.size 28 3 (.slice (some ⟨w.heap.size, 0, none⟩) 0 0) 0 []) :=
    Lib.hid ⟨rfl, .inr ⟨w.heap.size, 0, #[], rfl, Nat.le_refl _, At.new w 28 #[], Nat.le_refl _, Nat.zero_le _, rfl, rfl⟩⟩
  rcases Nat.eq_zero_or_pos l.length with h0 | h0
  · obtain rfl := List.eq_nil_of_length_eq_zero h0
    cases A with
    | none =>
      clear hcs hv
      have hnil : ∀ W, (binOp .eql 23 (.slice none 0 c) (.slice none 0 0)).run Try.prog W = .ok (.bool true) W := fun W => by kernel_rfl
      change Calls Try.prog 42 #[.slice none 0 c] w _
      go_enter Try.func42, Try.ntmps42
      go_wp2_with fail
      go_ret
      exact ⟨_, rfl, World.ownsRow_nil _ _ _ _, Below.refl _ _⟩
    | some a =>
      clear hcs hv
      have hnil : ∀ W, (binOp .eql 23 (.slice (some a) 0 c) (.slice none 0 0)).run Try.prog W = .ok (.bool false) W := fun W => by kernel_rfl
      change Calls Try.prog 42 #[.slice (some a) 0 c] w _
      go_enter Try.func42, Try.ntmps42
      go_wp2_with (refine wpList_append_zero rfl _ _ 23 rfl 28 i0 Try.underlying23 hi _ _ rfl _ _ rfl ?_)
      go_ret
      exact ⟨_, rfl, Hown.out, Keeps.alloc (Below.refl _ _) _⟩
  · obtain ⟨b, off, rfl, _, _, _⟩ := hcs 0 _ (List.getElem?_eq_getElem h0)
    have Hcell : Hid (∀ j u, (ecs l)[j]? = some u → (w.alloc (.cells #[] 28)).cell? ((⟨b, off, none⟩ : Addr).add j) = some u) := Lib.hid (rdE_cells (hv.below (Keeps.alloc (Below.refl _ _) _)))
    have hnil : ∀ W, (binOp .eql 23 (.slice (some ⟨b, off, none⟩) l.length c) (.slice none 0 0)).run Try.prog W = .ok (.bool false) W := fun W => by kernel_rfl
    clear hcs hm hv
    go_enter Try.func42, Try.ntmps42
    go_wp2_with (at_builtin; refine wpList_append_own _ rfl _ _ 23 rfl w.heap.size 28 i0 _ 3 24 Try.underlying23 hi hz0 hz1 hz2 rfl (by decide) _ 0 [] rfl Hown.out ⟨b, off, none⟩ l.length c (ecs l) rfl (ecs_length l) Hcell.out (ecs_one l) (by unfold maxLen; omega) (by omega) (by simp) ?_; intro v' w4 hown4 hgrow4 _)
    go_ret
    rw [Nat.zero_add, List.nil_append] at hown4
    exact ⟨_, rfl, hown4, (Keeps.alloc (Below.refl _ _) _).grown hgrow4 (by simp) (fun r hr => own_base Hown.out r hr)⟩
set_option maxHeartbeats 1000000 in
theorem Switch_no (n : Int) (v : Value) (l : List Ed) (s : ByteArray) (h : (graphB n l && sideB n s) = false) (w : World) (hv : RdE w v l) :
    Calls Try.prog 19 #[.int .i64 n, v, .string s] w fun e w' => e = .returned (.tuple #[.slice none 0 0, .int .i64 2]) ∧ Keeps w w' := by
  cases hg : graphB n l
  · have c1 := withSide_noG n v l s hg w hv
    clear hv hg h
    go_enter Try.func19, Try.ntmps19
    go_wp2_with (go_at_call 31; refine c1.mono ?_; rintro e w1 ⟨rfl, b1⟩)
    go_ret2
    exact ⟨rfl, b1⟩
  · rw [hg, Bool.true_and] at h
    have c1 := withSide_noS n v l s hg h w hv
    clear hv hg h
    go_enter Try.func19, Try.ntmps19
    go_wp2_with (go_at_call 31; refine c1.mono ?_; rintro e w1 ⟨B, rfl, b1⟩)
    go_ret2
    exact ⟨rfl, b1⟩
set_option maxHeartbeats 4000000 in
set_option maxRecDepth 100000 in
theorem Switch_yes (n : Int) (v : Value) (l : List Ed) (s : ByteArray) (hg : graphB n l = true) (hs1 : sideB n s = true) (w : World) (hv : RdE w v l) :
    Calls Try.prog 19 #[.int .i64 n, v, .string s] w fun e w' => ∃ u, e = .returned (.tuple #[u, .int .i64 0]) ∧ w'.ownsRow w.heap.size 28 3 u l.length (ecs (swL (rdS s.data.toList s.size) l)) ∧ Keeps w w' := by
  have c1 := withSide_yes n v l s hg hs1 w hv
  have hE := graphB_edges hg
  have hr := rdS_lt s.data.toList s.size
  generalize rdS s.data.toList s.size = S at *
  obtain ⟨A, c, rfl, hm, hcs⟩ := id hv
  have h41 := hE.1
  have HV := Lib.hid hv
  have Hcs := Lib.hid hcs
  clear hg hs1 hv hcs
  go_enter Try.func19, Try.ntmps19
  go_upto_region 5 with (first
    | (go_at_call 31; refine c1.mono ?_; rintro e w1 ⟨B, rfl, hB, a1, b1⟩; clear a1)
    | (go_at_call 42; refine (clone_e _ l h41 _ (HV.out.below b1)).mono ?_; rintro e w2 ⟨u, rfl, hown, hb2⟩))
  have hown : w2.ownsRow w.heap.size 28 3 u l.length (ecs l) := own_mono hown b1.size
  have hb2 := b1.next hb2
  clear c1
  rw [← swK_zero S l] at hown
  go_wp2_with fail
  go_loopw [28] (fun i wr => ∃ k : Nat, k ≤ l.length ∧ i = .int .i64 k ∧ wr.ownsRow w.heap.size 28 3 u l.length (ecs (swK S l k)) ∧ Keeps w wr) (fun i _ => l.length - (intOf i).toNat)
  case atStart => exact ⟨0, Nat.zero_le _, rfl, by rw [swK_zero] at hown ⊢; exact hown, hb2⟩
  case round =>
    clear hown hb2
    obtain ⟨k, hk, rfl, hown, hb⟩ := hrel
    generalize wr = w0 at *
    by_cases hlt : k < l.length
    · obtain ⟨x, hx⟩ : ∃ x, l[k]? = some x := ⟨_, List.getElem?_eq_getElem hlt⟩
      obtain ⟨b, off, rfl, c1, c2, c3⟩ := Hcs.out k x hx
      have c1 := cell_keep c1 hb
      have c2 := cell_keep c2 hb
      have c3 := cell_keep c3 hb
      have hxm := hE.2 x (List.mem_of_getElem? hx)
      have hkI : (k : Int) < (l.length : Int) := by omega
      obtain ⟨g, cap, rfl, -⟩ := own_form hown (by omega)
      obtain ⟨cur, hat, hgb, hcur⟩ := own_at hown (by omega)
      have hse := ecs_set (swK S l k) k x (-x.2.2) (swK_at S l k x hx)
      have hsk := swK_succ S l k x hx
      have hcv := hcur _ _ (ecs_at _ _ _ (swK_at S l k x hx)).2.2
      have hc4 := (hat.cell (k * 3 + 2)).trans hcv
      have hfz := hat.frozen (k * 3 + 2)
      have hsno := swE_no S x
      have hsyes : (hs S x.1.toNat != hs S x.2.1.toNat) = true → swE S x = (x.1, x.2.1, -x.2.2) := fun h => by unfold swE; rw [if_pos h]
      have hsame := set_same (swK S l k) k x (swK_at S l k x hx)
      obtain ⟨xa, xb, xc⟩ := x
      simp only at hxm c1 c2 c3 hsk hcv hc4 hsno hsyes hse
      obtain ⟨a, rfl⟩ := Int.eq_ofNat_of_zero_le hxm.1
      obtain ⟨b', rfl⟩ := Int.eq_ofNat_of_zero_le hxm.2.2.1
      simp only [Int.toNat_natCast] at hsno hsyes
      have cc := fun z => cuts_c S a b' xc (by omega) (by omega) hr z
      have Hsk := Lib.hid hsk
      have Hse := Lib.hid hse
      have Hsame := Lib.hid hsame
      have e1 : At (w0.alloc (.cells #[.int .i64 a, .int .i64 b', .int .i64 xc] 28)) w0.heap.size 28 (ev ((a : Int), (b' : Int), xc)) := At.new _ _ _
      have k1 : Keeps w0 (w0.alloc (.cells #[.int .i64 a, .int .i64 b', .int .i64 xc] 28)) := Keeps.alloc (Below.refl _ _) _
      have hwx : IntKind.i64.wrap (-xc) = -xc := IntWalk.i64_in _ (by omega)
      have hgl := hat.lt
      clear hsk hse hsame hcv hcur
      go_upto_region 8 with (fail)
      generalize (w0.alloc (.cells #[.int .i64 a, .int .i64 b', .int .i64 xc] 28)) = w1 at *
      cases ht : (hs S a != hs S b')
      · rw [ht] at cc
        have Hsn := Lib.hid (hsno ht)
        clear ht hsno hsyes
        go_wp2_with (first
          | (refine wpList_load_row rfl 28 _ rfl _ rfl 28 _ _ _ e1 Try.underlying28 rfl (sizeE _) ?_)
          | (go_at_call 43; refine (cc _).mono ?_; rintro e w2 ⟨rfl, b2⟩; have k2 := k1.next b2))
        go_roundw
        case rel => exact ⟨k + 1, by omega, by go_num, by rw [Hsk.out, Hsn.out, Hsame.out]; exact own_later hown k2, hb.next k2⟩
        case measure => simp [intOf]; omega
      · rw [ht] at cc
        have Hsn := Lib.hid (hsyes ht)
        clear ht hsno hsyes
        go_wp2_with (first
          | (refine wpList_load_row rfl 28 _ rfl _ rfl 28 _ _ _ e1 Try.underlying28 rfl (sizeE _) ?_)
          | (go_at_call 43; refine (cc _).mono ?_; rintro e w2 ⟨rfl, b2⟩; have k2 := k1.next b2; obtain ⟨p1, p2, p3⟩ := cells_ev (e1.later b2); have hc5 := cell_keep hc4 k2; have hf5 := (hat.later k2).frozen (k * 3 + 2)))
        go_roundw
        case rel => exact ⟨k + 1, by omega, by go_num, by rw [Hsk.out, Hsn.out, ← Hse.out]; exact own_put (own_later hown k2) (by omega) _ _, Keeps.setp (hb.next k2) g hgb _ _⟩
        case measure => simp [intOf]; omega
    · obtain rfl : k = l.length := by omega
      rw [swK_all] at hown
      go_wp2_with fail
      go_ret2
      exact ⟨_, rfl, hown, hb⟩
end Go.Proofs.Ytngonghgkeobhaa
