/- The walk of the reference's All. -/
import Derived.Test.YtdlnmmhdgjjcfaaWf
import Derived.Test.YtdlnmmhdgjjcfaaWa
import Derived.Test.YtdlnmmhdgjjcfaaVo
import Derived.Test.YtdlnmmhdgjjcfaaVf
import Derived.Maps.AppendAt
import Derived.Deep.Cut
namespace Go.Proofs.Ytdlnmmhdgjjcfaa
open Go.RowKit Go.Shelf
set_option linter.unusedVariables false
set_option linter.unusedSimpArgs false

theorem below_grown2 {B S : Nat} {a w w' : World} {row : Option Nat} (h : Below B a w) (hg : w.grownBy w' row) (hB : ∀ g, row = some g → S ≤ g) (hS : B ≤ S) (hw : B ≤ w.heap.size) : Below B a w' := h.grown hg hw (fun g e => Nat.le_trans hS (hB g e))
theorem infoRow : (Try.prog.info? 22).map (fun i => (i.zero, i.size, i.bytes)) = some (some (.slice none 0 0), 1, 24) := by kernel_rfl
theorem own_lt' {w : World} {base : Nat} {e : TypeId} {size n : Nat} {v : Value} {xs : List Value} (h : w.ownsRow base e size v n xs) : ∀ g, v.ownBlock = some g → g < w.heap.size := by
  rcases h.2 with ⟨rfl, _⟩ | ⟨g, cap, cur, rfl, hb, hg, _⟩
  · intro g hg; simp [Value.ownBlock] at hg
  · intro g' hg'
    obtain rfl : g = g' := by simpa [Value.ownBlock] using hg'
    exact (Array.getElem?_eq_some_iff.1 hg).1
/-- A list of rows that is owned: the rows lie in blocks of their own. -/
def OR (W : Nat) (Z : World) (u : Value) (xs : List (List Int)) : Prop :=
  ∃ us : List Value, us.length = xs.length ∧ Z.ownsRow W 22 1 u xs.length us ∧ ∀ (j : Nat) (y : Value), us[j]? = some y → ∃ l, xs[j]? = some l ∧ RdIB (fun r => W ≤ r ∧ some r ≠ u.ownBlock) Z y l
theorem OR.nil (W : Nat) (Z : World) : OR W Z (.slice none 0 0) [] := ⟨[], rfl, World.ownsRow_nil _ _ _ _, fun j y h => by simp at h⟩
theorem OR.keep {W : Nat} {Z Z' : World} {u : Value} {xs : List (List Int)} (h : OR W Z u xs) (hk : Keeps Z Z') : OR W Z' u xs := by
  obtain ⟨us, h1, h2, h3⟩ := h
  refine ⟨us, h1, own_later h2 hk, fun j y hy => ?_⟩
  obtain ⟨l, h4, h5⟩ := h3 j y hy
  exact ⟨l, h4, h5.to (Holds.of_keeps hk (fun r => W ≤ r ∧ some r ≠ u.ownBlock)) (fun b _ h => ⟨h, h⟩)⟩
theorem OR.step {W : Nat} {Z w2 w3 : World} {u v2 : Value} {xs : List (List Int)} {us : List Value} {l2 : List Int} {g3 n cap : Nat} (h1 : us.length = xs.length)
    (h3 : ∀ (j : Nat) (y : Value), us[j]? = some y → ∃ l, xs[j]? = some l ∧ RdIB (fun r => W ≤ r ∧ some r ≠ u.ownBlock) Z y l) (hlt : ∀ g, u.ownBlock = some g → g < Z.heap.size) (hW : W ≤ Z.heap.size)
    (hk : Keeps Z w2) (hr2 : RdIB (fun r => Z.heap.size ≤ r) w2 v2 l2) (o : Obj) (hg : (w2.alloc o).grownBy w3 u.ownBlock) (hl : u.ownBlock = some g3 ∨ g3 = w2.heap.size + 1) :
    ∀ (j : Nat) (y : Value), (us ++ [v2])[j]? = some y → ∃ l, (xs ++ [l2])[j]? = some l ∧ RdIB (fun r => W ≤ r ∧ some r ≠ (Value.slice (some ⟨g3, 0, none⟩) n cap).ownBlock) w3 y l := by
  intro j x hx
  have hob : (Value.slice (some ⟨g3, 0, none⟩) n cap).ownBlock = some g3 := rfl
  rw [hob]
  have hh3 : Holds (fun r => some r ≠ u.ownBlock) w2 w3 := ((Holds.refl _ w2).alloc o).grown hg (fun r hr hk => hk hr.symm)
  by_cases hj : j < us.length
  · rw [List.getElem?_append_left hj] at hx
    obtain ⟨l, hl1, hl2⟩ := h3 j x hx
    refine ⟨l, by rw [List.getElem?_append_left (by omega)]; exact hl1, hl2.to (K := fun r => some r ≠ u.ownBlock) ((Holds.of_keeps hk _).trans hh3) (fun b hb ⟨q1, q2⟩ => ⟨q2, q1, fun e => ?_⟩)⟩
    rcases hl with hl | hl
    · exact q2 (e.trans hl.symm)
    · have := hk.size; cases e; omega
  · have hjk : j = us.length := by have := (List.getElem?_eq_some_iff.1 hx).1; simp at this; omega
    subst hjk
    rw [List.getElem?_append_right (by omega), Nat.sub_self] at hx
    cases hx
    refine ⟨l2, by rw [h1, List.getElem?_append_right (by omega), Nat.sub_self]; rfl, hr2.to (K := fun r => some r ≠ u.ownBlock) hh3 (fun b hb q => ⟨fun e => ?_, Nat.le_trans hW q, fun e => ?_⟩)⟩
    · have := hlt b e.symm; omega
    · rcases hl with hl | hl
      · have := hlt g3 hl; cases e; omega
      · cases e; omega
theorem OR.read {W : Nat} {Z : World} {u : Value} {xs : List (List Int)} (h : OR W Z u xs) (hm : xs.length ≤ maxLen) : RdT Z u xs := by
  obtain ⟨us, h1, h2, h3⟩ := h
  exact RdB.rd (own_list (P := fun i x => ∃ l, xs[i]? = some l ∧ RdI Z x l) h2 hm (fun i x hx => by
    obtain ⟨l, h1, h2⟩ := h3 i x hx
    exact ⟨l, h1, h2.rd⟩)) (fun _ _ h => h)
/-- What is read is appended to nil: a row of one's own. -/
theorem wpList_append_rd {ops : Array Oper} {rest : List Oper} {o : Oper} {a : Act} {w : World} {Q : Exit → Act → World → Prop} (hgd : o.guard = none) (s x : Operand)
    (ho : o.op = .call { callee := .builtin .append, args := #[s, x], argTypes := #[22, 22] }) (hs : a.eval s = .slice none 0 0) (v : Value) (l : List Int) (hx : a.eval x = v) (hv : RdI w v l) (hlen : l.length ≤ 1000)
    (h : ∀ v' w', w'.ownsRow w.heap.size 3 1 v' l.length (l.map (Value.int .i64)) → Keeps w w' → wpList Try.prog ops Q rest (a.put o.dst v') w') : wpList Try.prog ops Q (o :: rest) a w := by
  obtain ⟨i0, hi, hz0, hz1, hz2⟩ := info_parts infoI
  obtain ⟨A, c, rfl, hm, hcs⟩ := hv
  by_cases h0 : l.length = 0
  · obtain rfl := List.eq_nil_of_length_eq_zero h0
    exact wpList_append_none hgd s x 22 ho 3 i0 Try.underlying22 hi hs A c hx (h _ _ (World.ownsRow_nil _ _ _ _) (Below.refl _ _))
  · obtain ⟨b, off, u0, rfl, _, _⟩ := hcs 0 (by omega)
    refine wpList_append_own w hgd s x 22 ho w.heap.size 3 i0 (.int .i64 0) 1 8 Try.underlying22 hi hz0 hz1 hz2 rfl (by decide) _ 0 [] hs (World.ownsRow_nil _ _ _ _) ⟨b, off, none⟩ l.length c (l.map (Value.int .i64)) hx (by simp) (fun j u hu => ?_)
      (fun u hu => by obtain ⟨x, _, rfl⟩ := List.mem_map.1 hu; rfl) (by unfold maxLen; omega) (by omega) (Nat.le_refl _) ?_
    · have hj := (List.getElem?_eq_some_iff.1 hu).1
      rw [List.length_map] at hj
      obtain ⟨b', o', y, e1, e2, rfl⟩ := hcs j hj
      cases e1
      rw [show ((⟨b, off, none⟩ : Addr).add j) = ⟨b, off + j, none⟩ from by unfold Addr.add; split <;> simp_all, e2, ← hu]
      simp [nth, hj]
    · intro v' w' ho hg _
      rw [Nat.zero_add, List.nil_append] at ho
      exact h v' w' ho ((Below.refl _ w).grown hg (Nat.le_refl _) (fun r hr => by simp [Value.ownBlock] at hr))

def stepP (n : Nat) (l : List Int) (x : Nat) : List (List Int) := ((List.range x).map fun s : Nat => l ++ [(s : Int)]).filter (goodB n)
theorem stepP_yes {n : Nat} {l : List Int} {x : Nat} (h : goodB n (l ++ [(x : Int)]) = true) : stepP n l (x + 1) = stepP n l x ++ [l ++ [(x : Int)]] := by simp [stepP, List.range_succ, h]
theorem stepP_no {n : Nat} {l : List Int} {x : Nat} (h : goodB n (l ++ [(x : Int)]) = false) : stepP n l (x + 1) = stepP n l x := by simp [stepP, List.range_succ, h]
theorem stepP_len (n : Nat) (l : List Int) (x : Nat) : (stepP n l x).length ≤ x := Nat.le_trans (List.length_filter_le _ _) (by simp)
theorem lvl_len (n : Nat) : ∀ i, (lvl n i).length ≤ n ^ i
  | 0 => by simp [lvl]
  | i + 1 => by
    have h := length_flatMap_le (stepL n) n (lvl n i) (fun x _ => stepP_len n x n)
    have := Nat.mul_le_mul_right n (lvl_len n i)
    show ((lvl n i).flatMap (stepL n)).length ≤ _
    rw [Nat.pow_succ]
    omega
theorem prev_len (n : Nat) (xs : List (List Int)) (q : Nat) : ((xs.take q).flatMap (stepL n)).length ≤ q * n := by
  refine Nat.le_trans (length_flatMap_le (stepL n) n (xs.take q) (fun x _ => stepP_len n x n)) (Nat.mul_le_mul_right n ?_)
  rw [List.length_take]; omega
theorem prev_snoc (n : Nat) (xs : List (List Int)) (q : Nat) (l : List Int) (h : xs[q]? = some l) : (xs.take (q + 1)).flatMap (stepL n) = (xs.take q).flatMap (stepL n) ++ stepP n l n := by
  obtain ⟨hq, rfl⟩ := List.getElem?_eq_some_iff.1 h
  rw [List.take_succ_eq_append_getElem hq, List.flatMap_append, List.flatMap_singleton]
  rfl
theorem goodB_has16 {n : Nat} (hn : n ≤ 16) {l : List Int} (h : rowsB n l = true) : l.all (hasB 16) = true := by
  unfold rowsB at h
  rw [Bool.and_eq_true] at h
  refine List.all_eq_true.2 fun x hx => ?_
  have := (hasB_iff _ _).1 (List.all_eq_true.1 h.1 x hx)
  exact (hasB_iff _ _).2 ⟨this.1, by omega⟩
set_option maxHeartbeats 4000000 in
set_option maxRecDepth 100000 in
theorem all_lvl (n : Nat) (hn7 : n ≤ 7) (w : World) :
    Calls Try.prog 18 #[.int .i64 n] w fun e w' => ∃ v, e = .returned v ∧ RdT w' v (lvl n n) ∧ Keeps w w' := by
  obtain ⟨i0, hi, hz0, hz1, hz2⟩ := info_parts infoI
  obtain ⟨j0, hj, hy0, hy1, hy2⟩ := info_parts infoRow
  have Hlen := Lib.hid (fun i (h : i ≤ 6) => Nat.le_trans (lvl_len n i) (Nat.le_trans (Nat.pow_le_pow_left hn7 i) (Nat.le_trans (Nat.pow_le_pow_right (by decide) h) (by decide : 7 ^ 6 ≤ 117649))))
  go_enter Try.func18, Try.ntmps18
  go_wp2_with fail
  go_loopw [3, 4] (fun o i wr => ∃ k : Nat, k ≤ n ∧ i = .int .i64 k ∧ RdT wr o (lvl n k) ∧ Keeps w wr) (fun _ i _ => n - (intOf i).toNat)
  case atStart =>
    refine ⟨0, Nat.zero_le _, rfl, ⟨_, _, rfl, by show 1 ≤ maxLen; unfold maxLen; omega, fun j hj => ?_⟩, Keeps.alloc (Below.refl _ _) _⟩
    obtain rfl : j = 0 := by have : j < 1 := hj; omega
    exact ⟨w.heap.size, 0, .slice none 0 0, rfl, (At.new w _ _).cell 0, [], rfl, nil_rd _⟩
  case round =>
    obtain ⟨k, hk, rfl, hrd, hb⟩ := hrel
    by_cases hlt : k < n
    · have hL6 := Hlen.out k (by omega)
      have Hlg := Lib.hid (lvl_good n k)
      obtain ⟨A, c, rfl, hmx, -⟩ := id hrd
      have hL6I : ((lvl n k).length : Int) ≤ 117649 := by omega
      clear hmx
      go_wp2_with fail
      generalize wr = w3 at *
      go_loopw [5, 6] (fun u j wr => ∃ q : Nat, q ≤ (lvl n k).length ∧ j = .int .i64 q ∧ OR w3.heap.size wr u (((lvl n k).take q).flatMap (stepL n)) ∧ Keeps w3 wr) (fun _ j _ => (lvl n k).length - (intOf j).toNat)
      case atStart => exact ⟨0, Nat.zero_le _, rfl, OR.nil _ _, Below.refl _ _⟩
      case round =>
        obtain ⟨q, hq, rfl, hor, hb3⟩ := hrel
        by_cases hqt : q < (lvl n k).length
        · obtain ⟨_, _, he, _, hcs⟩ := id hrd
          cases he
          obtain ⟨bo, oo, vl, rfl, hcl, l, hl, hrl⟩ := hcs q hqt
          obtain ⟨hg, hll⟩ := Hlg.out l (List.mem_of_getElem? hl)
          have hpl := prev_len n (lvl n k) q
          have Hl := Lib.hid hl
          have hpb : q * n ≤ 117649 * 7 := Nat.mul_le_mul (by omega) hn7
          obtain ⟨P, hP⟩ : ∃ P, P = ((lvl n k).take q).flatMap (stepL n) := ⟨_, rfl⟩
          rw [← hP] at hor hpl
          have HP := Lib.hid hP
          have HL : Hid (l.length = k) := Lib.hid hll
          clear hcs hg hP hl hll
          go_wp2_with fail
          generalize wr = w4 at *
          go_loopw [5, 7] (fun u j wr => ∃ s : Nat, s ≤ n ∧ j = .int .i64 s ∧ OR w3.heap.size wr u (P ++ stepP n l s) ∧ Keeps w3 wr) (fun _ j _ => n - (intOf j).toNat)
          case atStart => exact ⟨0, Nat.zero_le _, rfl, by simpa [stepP] using hor, hb3⟩
          case round =>
            obtain ⟨s, hs, rfl, hor2, hk3⟩ := hrel
            by_cases hst : s < n
            · have hcl5 := cell_keep hcl hk3
              have hrl5 := hrl.below hk3
              have hs3 := hk3.size
              have Hor2 := Lib.hid hor2
              have hlen1 : l.length + 1 ≤ 8 := by have := HL.out; omega
              clear hor2 hor
              go_upto_region 14 with (at_builtin; refine wpList_append_rd rfl (.tmp 26) (.tmp 30) rfl rfl vl l rfl hrl5 (by omega) ?_; intro v1 w5 hown1 hk5)
              have hs5 := hk5.size
              have Hob1 := Lib.hid (own_base hown1)
              go_upto_region 15 with (at_builtin; refine wpList_append_own _ rfl (.tmp 32) (.tmp 34) 22 rfl wr.heap.size 3 i0 _ 1 8 Try.underlying22 hi hz0 hz1 hz2 rfl (by decide) _ l.length (l.map (Value.int .i64)) rfl (hown1.alloc _) _ 1 1 [.int .i64 s] rfl rfl (new_cells _ _ _ _ (by simp)) (by simp [Value.oneCell']) (by unfold maxLen; omega) (by omega) (by simp; omega) ?_; intro v2 w6 hown2 hgrow2 _)
              have hk6 : Keeps wr w6 := (Keeps.alloc hk5 _).grown hgrow2 (by simp; omega) (fun r hr => Hob1.out r hr)
              obtain ⟨g2, cap2, rfl, hg2, _, hcp2, _, _⟩ := own_form hown2 (by omega)
              have hrow : RdIB (fun r => wr.heap.size ≤ r) w6 (.slice (some ⟨g2, 0, none⟩) (l.length + 1) cap2) (l ++ [(s : Int)]) := by
                have := own_ints (l := l ++ [(s : Int)]) (by rw [List.length_append, List.length_singleton, List.map_append]; exact hown2) (by rw [List.length_append, List.length_singleton]; unfold maxLen; omega)
                exact this
              have hrr := fun x hx => rrows_c (.slice (some ⟨g2, 0, none⟩) (l.length + 1) cap2) (l ++ [(s : Int)]) n x hx
              have hG : goodB n (l ++ [(s : Int)]) = (rowsB n (l ++ [(s : Int)]) && clearB (l ++ [(s : Int)])) := rfl
              have hkq : Keeps w3 w6 := hk3.next hk6
              have Hrow := Lib.hid hrow
              clear hown1 hown2 hgrow2 hrow hcl5 hrl5 hk5
              cases hR : rowsB n (l ++ [(s : Int)]) with
              | false =>
                rw [hR] at hrr
                rw [hR, Bool.false_and] at hG
                have HG := Lib.hid hG
                clear hG hR
                go_wp2_with (go_at_call 26; refine (hrr _ Hrow.out.rd).mono ?_; rintro e w7 ⟨rfl, m, rfl⟩)
                go_roundw
                case rel => exact ⟨s + 1, by omega, by go_num, by rw [stepP_no HG.out]; exact Hor2.out.keep (below_drewN hk6), below_drewN hkq⟩
                case measure => simp [intOf]; omega
              | true =>
                have hcc := fun x hx => risclearG_c (some ⟨g2, 0, none⟩) cap2 (l.length + 1) (l ++ [(s : Int)]) (by simp) (by omega) (by omega) (goodB_has16 (n := n) (by omega) hR) x hx
                rw [hR] at hrr
                rw [hR, Bool.true_and] at hG
                cases hC : clearB (l ++ [(s : Int)]) with
                | false =>
                  rw [hC] at hcc hG
                  have HG := Lib.hid hG
                  clear hG hR hC
                  go_wp2_with (first
                    | (go_at_call 26; refine (hrr _ Hrow.out.rd).mono ?_; rintro e w7 ⟨rfl, m, rfl⟩)
                    | (go_at_call 31; refine (hcc _ (Hrow.out.rd.below (below_drewN (Below.refl _ _)))).mono ?_; rintro e w8 ⟨rfl, hb8⟩))
                  go_roundw
                  case rel => exact ⟨s + 1, by omega, by go_num, by rw [stepP_no HG.out]; exact Hor2.out.keep (Keeps.next (below_drewN hk6) hb8), Keeps.next (below_drewN hkq) hb8⟩
                  case measure => simp [intOf]; omega
                | true =>
                  rw [hC] at hcc hG
                  have HG := Lib.hid hG
                  clear hG hR hC
                  obtain ⟨us, u1, u2, u3⟩ := Hor2.out
                  have hsl := stepP_len n l s
                  obtain ⟨m3, hm3⟩ : ∃ m3, (P ++ stepP n l s).length = m3 := ⟨_, rfl⟩
                  have hm3b : m3 ≤ 900000 := by rw [← hm3, List.length_append]; omega
                  rw [hm3] at u1 u2
                  have U3 := Lib.hid u3
                  have U1 := Lib.hid u1
                  have Hm3 := Lib.hid hm3
                  have Holt := Lib.hid (own_lt' u2)
                  have Hobs := Lib.hid (own_base u2)
                  have s5 : m3 + 1 ≤ maxLen := by unfold maxLen; omega
                  have s4 : (m3 + 1) * 24 ≤ 140737488355328 := by omega
                  clear u1 u3 hm3 hsl
                  go_upto_region 16 with (first
                    | (go_at_call 26; refine (hrr _ Hrow.out.rd).mono ?_; rintro e w7 ⟨rfl, m, rfl⟩)
                    | (go_at_call 31; refine (hcc _ (Hrow.out.rd.below (below_drewN (Below.refl _ _)))).mono ?_; rintro e w8 ⟨rfl, hb8⟩))
                  have hk8 : Keeps wr w8 := Keeps.next (below_drewN hk6) hb8
                  have hk48 : Keeps w3 w8 := hk3.next hk8
                  have hown' := own_later u2 hk8
                  have hs8 := hk8.size
                  have hs2 : w3.heap.size ≤ (w8.alloc (.cells #[.slice (some ⟨g2, 0, none⟩) (l.length + 1) cap2] 22)).heap.size := by simp; omega
                  have hr8 : RdIB (fun r => wr.heap.size ≤ r) w8 (.slice (some ⟨g2, 0, none⟩) (l.length + 1) cap2) (l ++ [(s : Int)]) := Hrow.out.to (Holds.of_keeps (Keeps.next (below_drewN (Below.refl _ _)) hb8) (fun r => wr.heap.size ≤ r)) (fun b _ h => ⟨h, h⟩)
                  have Hr8 := Lib.hid hr8
                  clear u2 hr8 hrr hcc
                  go_wp2_with (at_builtin; refine wpList_append_own_at _ rfl (.tmp 43) (.tmp 45) 38 rfl w3.heap.size 22 j0 (.slice none 0 0) 1 24 Try.underlying38 hj hy0 hy1 hy2 rfl (by decide) _ m3 us rfl (hown'.alloc _) ⟨w8.heap.size, 0, none⟩ 1 1 [.slice (some ⟨g2, 0, none⟩) (l.length + 1) cap2] rfl rfl (new_cells _ _ _ _ rfl) (by simp [Value.oneCell']) s5 s4 hs2 ?_; intro v9 w9 hown9 hgrow9 _ hl9)
                  obtain ⟨g9, cap9, rfl, _, _, _, _, _⟩ := own_form hown9 (by omega)
                  go_roundw
                  case rel =>
                    refine ⟨s + 1, by omega, by go_num, ?_, below_grown2 (Keeps.alloc hk48 _) hgrow9 Hobs.out (Nat.le_refl _) (by simp; omega)⟩
                    rw [stepP_yes HG.out, ← List.append_assoc]
                    refine ⟨us ++ [.slice (some ⟨g2, 0, none⟩) (l.length + 1) cap2], by have h1 := Hm3.out; have h2 := U1.out; simp only [List.length_append, List.length_singleton] at *; omega, ?_, OR.step (by rw [U1.out, Hm3.out]) U3.out Holt.out (by omega) hk8 Hr8.out _ hgrow9 (hl9.imp (fun e => e.symm) (fun e => by simpa [Value.ownBlock] using e))⟩
                    rw [List.length_append, Hm3.out]
                    exact hown9
                  case measure => simp [intOf]; omega
            · obtain rfl : s = n := by omega
              go_wp2_with fail
              go_roundw
              case rel => exact ⟨q + 1, by omega, by go_num, by rw [prev_snoc _ _ q l Hl.out, ← HP.out]; exact hor2, hk3⟩
              case measure => simp [intOf]; omega
        · obtain rfl : q = (lvl n k).length := by omega
          have hpl := prev_len n (lvl n k) (lvl n k).length
          have hpb : (lvl n k).length * n ≤ 117649 * 7 := Nat.mul_le_mul (by omega) hn7
          have hnx := hor.read (by rw [List.take_length] at hpl ⊢; unfold maxLen; omega)
          rw [List.take_length] at hnx
          clear hpl hpb hor
          go_wp2_with fail
          go_roundw
          case rel => exact ⟨k + 1, by omega, by go_num, hnx, hb.next hb3⟩
          case measure => simp [intOf]; omega
    · obtain rfl : k = n := by omega
      go_wp2_with fail
      go_ret
      exact ⟨_, rfl, hrd, hb⟩
end Go.Proofs.Ytdlnmmhdgjjcfaa
