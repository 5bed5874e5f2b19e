/- The law's copy of a table. -/
import Derived.Test.YtikedhkibdeheaaFr
import Derived.Test.YtikedhkibdeheaaTb
import Derived.Test.YtikedhkibdeheaaJb
namespace Go.Proofs.Ytikedhkibdeheaa
open Go.RowKit Go.Deep
set_option linter.unusedVariables false

/-- The copy of a table. -/
def cut (t : List (List Int)) : List (List Int) := (t.take 3).map (·.take 6)
theorem cut_length (t : List (List Int)) : (cut t).length = min t.length 3 := by simp [cut]; omega
theorem cut_at (t : List (List Int)) (k : Nat) (l : List Int) (h : t[k]? = some l) (hk : k < 3) : (cut t)[k]? = some (l.take 6) := by simp [cut, hk, h]
theorem infoRow : (Try.prog.info? 35).map (fun i => (i.zero, i.size, i.bytes)) = some (some (.slice none 0 0), 1, 24) := by kernel_rfl
theorem cut_row (t : List (List Int)) (k : Nat) (l : List Int) (h : t[k]? = some l) (hk : k < 3) : (cut t)[k]? = some (l.take 6) := cut_at t k l h hk
theorem step_append_none {P : Program} {ops : Array Oper} {o : Oper} {a : Act} {w : World} {K : Act → World → Prop} {Q : Exit → Act → World → Prop} {E : Prop} (hgd : o.guard = none) (s x : Operand) (t : TypeId)
    (ho : o.op = .call { callee := .builtin .append, args := #[s, x], argTypes := #[t, t] }) (e : TypeId) (i : TypeInfo) (ht : P.underlying t = some (.slice e)) (hi : P.info? e = some i)
    (hs : a.eval s = .slice none 0 0) (A : Option Addr) (c : Nat) (hx : a.eval x = .slice A 0 c) (h : K (a.put o.dst (.slice none 0 0)) w) :
    if Region.wanted o (yielded ops a.tmps) = true then Oper.wp P o a w K Q else E := by
  have hw : Region.wanted o (yielded ops a.tmps) = true := by simp [Region.wanted, hgd]
  rw [if_pos hw]
  have hrun : (Builtin.append_ #[t, t] o.type #[.slice none 0 0, .slice A 0 c]).run P w = .ok (.slice none 0 0) w := by
    cases A <;> simp [Builtin.append_, run_underlying ht, sizeOf, typeInfo, hi, Builtin.lenOf, Builtin.firstCells, loadCells, loadCellsFrom]
  unfold Oper.wp
  simp [execOp, ho, resolve, invoke, builtin, hs, hx, hrun, Result.andThen]
  exact h
/-- One row more in the copy. -/
theorem copy_step {W : Nat} {wr w2 w3 : World} {u : Value} {k : Nat} {us : List Value} {T : List (List Int)} {g3 : Nat} {v2 : Value} {l2 : List Int} (hus : us.length = k)
    (hrd : ∀ (j : Nat) (x : Value), us[j]? = some x → ∃ l, T[j]? = some l ∧ RdIB (fun r => W ≤ r ∧ some r ≠ u.ownBlock) wr x l)
    (hT : T[k]? = some l2) (hsz : W ≤ wr.heap.size) (hown : ∀ g, u.ownBlock = some g → g < wr.heap.size) (h2 : Holds (fun _ => True) wr w2) (hr2 : RdIB (fun r => wr.heap.size ≤ r) w2 v2 l2)
    (o : Obj) (h3 : (w2.alloc o).grownBy w3 u.ownBlock) (hl : u.ownBlock = some g3 ∨ g3 = w2.heap.size + 1) (n cap : Nat) :
    ∀ (j : Nat) (x : Value), (us ++ [v2])[j]? = some x → ∃ l, T[j]? = some l ∧ RdIB (fun r => W ≤ r ∧ some r ≠ (Value.slice (some ⟨g3, 0, none⟩) n cap).ownBlock) w3 x l := by
  intro j x hx
  have hob : (Value.slice (some ⟨g3, 0, none⟩) n cap).ownBlock = some g3 := rfl
  rw [hob]
  have hh3 : Holds (fun r => some r ≠ u.ownBlock) w2 w3 := ((Holds.refl _ w2).alloc o).grown h3 (fun r hr hk => hk hr.symm)
  by_cases hj : j < k
  · rw [List.getElem?_append_left (by omega)] at hx
    obtain ⟨l, hl1, hl2⟩ := hrd j x hx
    refine ⟨l, hl1, hl2.to (K := fun r => some r ≠ u.ownBlock) ((h2.mono fun _ _ _ => trivial).trans hh3) (fun b hb ⟨q1, q2⟩ => ⟨q2, q1, fun e => ?_⟩)⟩
    rcases hl with hl | hl
    · exact q2 (e.trans hl.symm)
    · have := h2.size; cases e; omega
  · have hjk : j = k := by have := (List.getElem?_eq_some_iff.1 hx).1; simp [hus] at this; omega
    subst hjk
    rw [List.getElem?_append_right (by omega), hus, Nat.sub_self] at hx
    cases hx
    refine ⟨l2, hT, hr2.to (K := fun r => some r ≠ u.ownBlock) hh3 (fun b hb q => ⟨fun e => ?_, Nat.le_trans hsz q, fun e => ?_⟩)⟩
    · have := hown b e.symm; omega
    · rcases hl with hl | hl
      · have := hown g3 hl; cases e; omega
      · cases e; omega
theorem own_lt {w : World} {base : Nat} {e : TypeId} {size n : Nat} {v : Value} {xs : List Value} (h : w.ownsRow base e size v n xs) : ∀ g, v.ownBlock = some g → g < w.heap.size := by
  rcases h.2 with ⟨rfl, _⟩ | ⟨g, cap, cur, rfl, hb, hg, _⟩
  · intro g hg; simp [Value.ownBlock] at hg
  · intro g' hg'
    obtain rfl : g = g' := by simpa [Value.ownBlock] using hg'
    exact (Array.getElem?_eq_some_iff.1 hg).1
theorem copy_end {w wr : World} {u : Value} {k : Nat} {us : List Value} {T : List (List Int)} (hus : us.length = k) (hk : k = T.length) (hT : T.length ≤ 3) (hown : wr.ownsRow w.heap.size 35 1 u k us)
    (hrd : ∀ (j : Nat) (x : Value), us[j]? = some x → ∃ l, T[j]? = some l ∧ RdIB (fun r => w.heap.size ≤ r ∧ some r ≠ u.ownBlock) wr x l) : RdT wr u T := by
  unfold RdT
  subst hk
  exact RdB.rd (own_list (P := fun i x => ∃ l, T[i]? = some l ∧ RdI wr x l) hown (by unfold maxLen; omega) (fun i x hx => by
    obtain ⟨l, h1, h2⟩ := hrd i x hx
    exact ⟨l, h1, h2.rd⟩)) (fun _ _ h => h)

set_option maxHeartbeats 2000000 in
set_option maxRecDepth 100000 in
theorem table_c (v : Value) (t : List (List Int)) (w : World) (hv : RdTC w v t) :
    Calls Try.prog 23 #[v] w fun e w' => ∃ u, e = .returned u ∧ RdT w' u (cut t) ∧ Keeps w w' := by
  obtain ⟨A, c, rfl, hm, hcs⟩ := id hv
  unfold maxLen at hm
  obtain ⟨i0, hi, hz0, hz1, hz2⟩ := info_parts infoI
  obtain ⟨j0, hj, hy0, hy1, hy2⟩ := info_parts infoRow
  have hcl := cut_length t
  have hrowc := cut_row t
  obtain ⟨T, hTe⟩ : ∃ T, T = cut t := ⟨_, rfl⟩
  rw [← hTe] at hcl hrowc ⊢
  have Hrowc := Lib.hid hrowc
  clear hTe hrowc
  go_enter Try.func23, Try.ntmps23
  go_wp2_with fail
  go_loopw [3, 4] (fun u i wr => ∃ (k : Nat) (us : List Value), k ≤ min t.length 3 ∧ i = .int .i64 k ∧ us.length = k ∧ wr.ownsRow w.heap.size 35 1 u k us ∧
    (∀ (j : Nat) (x : Value), us[j]? = some x → ∃ l, T[j]? = some l ∧ RdIB (fun r => w.heap.size ≤ r ∧ some r ≠ u.ownBlock) wr x l) ∧ Keeps w wr) (fun _ i _ => 3 - (intOf i).toNat)
  case atStart => exact ⟨0, [], by omega, rfl, rfl, World.ownsRow_nil _ _ _ _, fun j u h => by simp at h, Below.refl _ _⟩
  case round =>
    obtain ⟨k, us, hk, rfl, hus, hown, hrd, hb⟩ := hrel
    have hsz := hb.size
    have Hus := Lib.hid hus
    have Hrd := Lib.hid hrd
    have Holt := Lib.hid (own_lt hown)
    have Hobs := Lib.hid (own_base hown)
    clear hus hrd
    by_cases hlt : k < t.length
    · by_cases h3 : k < 3
      · obtain ⟨b, off, ux, rfl, hcell0, l, hlk, hrl, hcl1⟩ := hcs k hlt
        have hcell := cell_keep hcell0 hb
        have hrl2 := RdI.below hrl hb
        obtain ⟨A1, c1, rfl, hm1, hcs1⟩ := id hrl2
        have hcap1 : l.length ≤ c1 := hcl1
        have HTk := Lib.hid (Hrowc.out k l hlk h3)
        unfold maxLen at hm1
        clear hcs hrl hrl2 hlk hcell0 hv
        by_cases hl0 : l.length = 0
        · have hl00 : l = [] := List.eq_nil_of_length_eq_zero hl0
          subst hl00
          have hmin : min (0 : Int) 6 = 0 := by decide
          have s4 : (k + 1) * 24 ≤ 140737488355328 := by omega
          have s5 : k + 1 ≤ maxLen := by unfold maxLen; omega
          have hs2 : w.heap.size ≤ (wr.drew.alloc (.cells #[.slice none 0 0] 35)).heap.size := by simp; omega
          clear hcs1 hl0
          go_wp2_with fail
          go_region_law (
            first
            | (refine step_append_none rfl (.tmp 17) (.tmp 28) 35 rfl 3 i0 Try.underlying35 hi rfl A1 c1 rfl ?_)
            | (refine step_append_lies _ rfl (.tmp 16) (.tmp 30) 49 rfl w.heap.size 35 j0 (.slice none 0 0) 1 24 Try.underlying49 hj hy0 hy1 hy2 rfl (by decide) u3 k us rfl ((show World.ownsRow wr.drew _ _ _ _ _ _ from hown).alloc _) ⟨wr.heap.size, 0, none⟩ 1 1 [.slice none 0 0] rfl rfl (new_cells _ _ _ _ rfl) (by simp [Value.oneCell']) (by decide) s5 s4 hs2 (wr.heap.size + 1) (by simp) ?_; intro g3 cap3 w3 hown3 hgrow3 hlie3 _))
          all_goals
            go_wp2_with fail
            go_roundw
            case rel => exact ⟨k + 1, us ++ [.slice none 0 0], by omega, by go_num, by simp [Hus.out], hown3, copy_step (w2 := wr.drew) Hus.out Hrd.out HTk.out hsz Holt.out ((Holds.refl _ wr).drew) ⟨none, 0, rfl, by unfold maxLen; simp, fun k hk => by simp at hk⟩ _ hgrow3 hlie3 _ _, below_grown'' (Keeps.alloc hb.drew _) hgrow3 Hobs.out (by simp; omega)⟩
            case measure => simp [intOf]; omega
        · obtain ⟨b1, off1, u1, rfl, _, _⟩ := hcs1 0 (by omega)
          obtain ⟨m, hmm⟩ : ∃ m, m = min l.length 6 := ⟨_, rfl⟩
          have hmin : min (l.length : Int) 6 = (m : Int) := by omega
          have m1 : 0 < m := by omega
          have m2 : (m : Int) ≤ c1 := by omega
          have m3 : m ≤ c1 := by omega
          have hlen6 : (l.take 6).length = m := by rw [List.length_take]; omega
          have Hl6 := Lib.hid (show ((l.take 6).map (Value.int .i64)).length = m * 1 by rw [List.length_map, hlen6, Nat.mul_one])
          have Hnews := Lib.hid (show ∀ (j : Nat) (u : Value), ((l.take 6).map (Value.int .i64))[j]? = some u → wr.drew.cell? ((⟨b1, off1, none⟩ : Addr).add j) = some u by
            intro j u hu
            have hj := (List.getElem?_eq_some_iff.1 hu).1
            rw [List.length_map, hlen6] at hj
            obtain ⟨b2, off2, u2, hA2, hc2, hv2⟩ := hcs1 j (by omega)
            cases hA2
            rw [show ((⟨b1, off1, none⟩ : Addr).add j) = ⟨b1, off1 + j, none⟩ from add_eq _ rfl j]
            refine Eq.trans (show wr.drew.cell? _ = wr.cell? _ from rfl) (hc2.trans ?_)
            rw [hv2, ← hu, List.getElem?_map, List.getElem?_take, if_pos (by omega), nth]
            cases h : l[j]? with
            | none => rw [List.getElem?_eq_none_iff] at h; omega
            | some x => rfl)
          have Hm6 := Lib.hid hlen6
          have Hone := Lib.hid (show ∀ u ∈ ((l.take 6).map (Value.int .i64)), u.oneCell' = true from fun u hu => by obtain ⟨_, _, rfl⟩ := List.mem_map.1 hu; rfl)
          have s1 : 0 + m ≤ maxLen := by unfold maxLen; omega
          have s2 : (0 + m) * 8 ≤ 140737488355328 := by omega
          have s4 : (k + 1) * 24 ≤ 140737488355328 := by omega
          have s5 : k + 1 ≤ maxLen := by unfold maxLen; omega
          clear hcs1 hl0 hmm hlen6
          go_wp2_with fail
          go_region_law (
            first
            | (refine step_append_lies _ rfl (.tmp 17) (.tmp 28) 35 rfl wr.heap.size 3 i0 (.int .i64 0) 1 8 Try.underlying35 hi hz0 hz1 hz2 rfl (by decide) (.slice none 0 0) 0 [] rfl (World.ownsRow_nil _ _ _ _) ⟨b1, off1, none⟩ m c1 ((l.take 6).map (Value.int .i64)) rfl Hl6.out Hnews.out Hone.out m1 s1 s2 (Nat.le_refl _) wr.heap.size rfl ?_; intro g2 cap2 w2 hown2 hgrow2 _ hlt2; have hh2 : Holds (fun _ => True) wr w2 := ((Holds.refl _ wr).drew).grown hgrow2 (by simp [Value.ownBlock]); have hk2 : Keeps w w2 := below_grown'' hb.drew hgrow2 (by simp [Value.ownBlock]) (Nat.le_trans hsz (Nat.le_refl _)); have hown2' := own_holds hown hh2 (fun _ _ => trivial); have hs2 : w.heap.size ≤ (w2.alloc (.cells #[.slice (some ⟨g2, 0, none⟩) m cap2] 35)).heap.size := by have := hk2.size; simp; omega)
            | (refine step_append_lies _ rfl (.tmp 16) (.tmp 30) 49 rfl w.heap.size 35 j0 (.slice none 0 0) 1 24 Try.underlying49 hj hy0 hy1 hy2 rfl (by decide) u3 k us rfl (hown2'.alloc _) ⟨w2.heap.size, 0, none⟩ 1 1 [.slice (some ⟨g2, 0, none⟩) m cap2] rfl rfl (new_cells _ _ _ _ rfl) (by simp [Value.oneCell']) (by decide) s5 s4 hs2 (w2.heap.size + 1) (by simp) ?_; intro g3 cap3 w3 hown3 hgrow3 hlie3 _))
          all_goals
            go_wp2_with fail
            go_roundw
            case rel => exact ⟨k + 1, us ++ [.slice (some ⟨g2, 0, none⟩) m cap2], by omega, by go_num, by simp [Hus.out], hown3, copy_step (w2 := w2) Hus.out Hrd.out HTk.out hsz Holt.out hh2 (own_ints (by rw [Hm6.out]; rw [Nat.zero_add, List.nil_append] at hown2; exact hown2) (by rw [Hm6.out]; unfold maxLen; omega)) _ hgrow3 hlie3 _ _, below_grown'' (Keeps.alloc hk2 _) hgrow3 Hobs.out (by have := hk2.size; simp; omega)⟩
            case measure => simp [intOf]; omega
      · have HkT := Lib.hid (show k = T.length by omega)
        have HT3 := Lib.hid (show T.length ≤ 3 by omega)
        clear hcs hv hcl
        go_wp2_with fail
        go_ret
        exact ⟨_, rfl, copy_end Hus.out HkT.out HT3.out hown Hrd.out, hb⟩
    · have HkT := Lib.hid (show k = T.length by omega)
      have HT3 := Lib.hid (show T.length ≤ 3 by omega)
      clear hcs hv hcl
      go_wp2_with fail
      go_ret
      exact ⟨_, rfl, copy_end Hus.out HkT.out HT3.out hown Hrd.out, hb⟩
end Go.Proofs.Ytikedhkibdeheaa
