/- The law's tame graphs. -/
import Derived.Test.YtngonghgkeobhaaEg
import Derived.Test.YtngonghgkeobhaaDb
namespace Go.Proofs.Ytngonghgkeobhaa
open Go.RowKit Go.Shelf
set_option linter.unusedVariables false
set_option linter.unusedSimpArgs false

/-- Which pairs of vertices are used. -/
def usA (l : List Ed) : Array Value := ((List.range 144).map fun k : Nat => Value.bool (l.any fun x => decide (x.1 * 12 + x.2.1 = k))).toArray
set_option maxRecDepth 100000 in
theorem zero_used (W : World) : (zeroValue 55).run Try.prog W = .ok (.agg (usA [])) W := by kernel_rfl
theorem usA_size (l : List Ed) : (usA l).size = 144 := by simp [usA]
theorem usA_at (l : List Ed) (k : Nat) (h : k < 144) : (usA l)[k]? = some (.bool (l.any fun x => decide (x.1 * 12 + x.2.1 = k))) := by simp [usA, h]
theorem usA_set (l : List Ed) (a b : Nat) (c : Int) : (usA l).setIfInBounds (a * 12 + b) (.bool true) = usA (l ++ [((a : Int), (b : Int), c)]) := by
  apply Array.ext_getElem?
  intro i
  rw [Array.getElem?_setIfInBounds, usA_size]
  by_cases hi : i < 144
  · rw [usA_at _ _ hi, usA_at _ _ hi, List.any_append]
    by_cases hx : a * 12 + b = i
    · have : (a : Int) * 12 + b = i := by omega
      simp [hx, this, hi]
    · have : ¬ (a : Int) * 12 + b = i := by omega
      simp [hx, this]
  · have h1 : (usA l)[i]? = none := by rw [Array.getElem?_eq_none]; rw [usA_size]; omega
    have h2 : ∀ m, (usA m)[i]? = none := fun m => by rw [Array.getElem?_eq_none]; rw [usA_size]; omega
    rw [h1, h2]
    split
    · split
      · omega
      · rfl
    · rfl
theorem goodK_app (n : Int) (l m : List Ed) : ∀ k, k ≤ l.length → goodK n (l ++ m) k = goodK n l k
  | 0, _ => rfl
  | k + 1, h => by
    unfold goodK
    rw [goodK_app n l m k (by omega), List.getElem?_append_left (by omega)]
    unfold dupK
    rw [List.take_append_of_le_length (by omega)]
theorem graphB_snoc (d : Nat) (l : List Ed) (hg : graphB d l = true) (hl : l.length < 40) (a b : Nat) (c : Int) (hab : a < b) (hbd : b < d) (hc : -50 ≤ c ∧ c ≤ 50)
    (hu : (l.any fun x => decide (x.1 * 12 + x.2.1 = ((a * 12 + b : Nat) : Int))) = false) : graphB d (l ++ [((a : Int), (b : Int), c)]) = true := by
  have hall := goodK_all d l l.length (by unfold graphB at hg; simp only [Bool.and_eq_true] at hg; exact hg.2.2)
  rw [List.take_length] at hall
  unfold graphB at hg ⊢
  simp only [Bool.and_eq_true, decide_eq_true_eq] at hg ⊢
  obtain ⟨h1, h2, h3⟩ := hg
  refine ⟨h1, by rw [List.length_append, List.length_singleton]; omega, ?_⟩
  rw [List.length_append, List.length_singleton]
  unfold goodK
  rw [goodK_app d l _ _ (Nat.le_refl _), h3, List.getElem?_append_right (Nat.le_refl _), Nat.sub_self]
  simp only [List.getElem?_cons_zero, Bool.true_and, Bool.and_eq_true, Bool.not_eq_true']
  refine ⟨?_, ?_⟩
  · unfold edgeB
    simp only [Bool.and_eq_true, decide_eq_true_eq]
    omega
  · unfold dupK
    rw [List.take_append_of_le_length (Nat.le_refl _), List.take_length, List.any_eq_false]
    intro x hx hc
    rw [decide_eq_true_eq] at hc
    have := List.any_eq_false.1 hu x hx
    rw [decide_eq_true_eq] at this
    omega
theorem graphB_nil (d : Nat) (h1 : 1 ≤ d) (h2 : d ≤ 12) : graphB d [] = true := by
  unfold graphB
  simp only [Bool.and_eq_true, decide_eq_true_eq]
  exact ⟨by omega, by simp, rfl⟩
/-- What tame answers. -/
def TameR (d most : Nat) (lo : Int) (w : World) (e : Ending) (w' : World) : Prop := ∃ (l : List Ed) (A : Option Addr) (c : Nat), e = .returned (.tuple #[.int .i64 d, .slice A l.length c]) ∧ RdE w' (.slice A l.length c) l ∧ l.length ≤ c ∧ graphB d l = true ∧ l.length ≤ most ∧ (∀ x ∈ l, lo ≤ x.2.2) ∧ Keeps w w'
def tmD (n : Int) : Nat := (1 + modN n 12).toNat
theorem tmD_in (n : Int) : 1 ≤ tmD n ∧ tmD n ≤ 12 := by
  have := modN_in n 12 (by decide)
  unfold tmD; omega
set_option maxHeartbeats 4000000 in
set_option maxRecDepth 100000 in
theorem tame_c (n : Int) (v : Value) (l0 : List Int) (most : Nat) (lo : Int) (hm : most ≤ 40) (hlo : -50 ≤ lo) (hlo2 : lo ≤ 50) (hn : (Lit.int .i64 n).wf = true) (w : World) (hv : RdI w v l0) (hf : fits l0) :
    Calls Try.prog 9 #[.int .i64 n, v, .int .i64 most, .int .i64 lo] w (TameR (tmD n) most lo w) := by
  obtain ⟨A0, c0, rfl, hmx, hcs⟩ := id hv
  unfold maxLen at hmx
  obtain ⟨i0, hi, hz0, hz1, hz2⟩ := info_parts infoEd
  have hmod := fun X => mod_c n 12 hn (by decide) (by decide) X
  have hmi := modN_in n 12 (by decide)
  have hmodx := fun k (hk : k < l0.length) X => mod_c (nth l0 k) 1099511627776 (hf _ (nth_mem l0 k hk)) (by decide) (by decide) X
  have hxin := fun k => modN_in (nth l0 k) 1099511627776 (by decide)
  obtain ⟨d, hd⟩ : ∃ d, tmD n = d := ⟨_, rfl⟩
  have hd1 := tmD_in n
  rw [hd] at hd1
  rw [hd]
  have hmv : modN n 12 = ((d - 1 : Nat) : Int) := by unfold tmD at hd; omega
  have hmw : wrap64 (1 + ((d - 1 : Nat) : Int)) = (d : Int) := by simp only [wrap64]; omega
  rw [hmv] at hmod
  have z1 := zero_used
  have z3 := usA_size []
  have z4 : usA [] ≠ #[] := fun e => by have := congrArg Array.size e; rw [z3] at this; cases this
  have Hcs := Lib.hid hcs
  have Hmx := Lib.hid hmodx
  have Hxi := Lib.hid hxin
  clear hmi hd hmv hcs hmodx hxin hf hv
  obtain ⟨Y, hY⟩ : ∃ Y, usA [] = Y := ⟨_, rfl⟩
  rw [hY] at z1 z3 z4
  have HY := Lib.hid hY
  clear hY
  go_enter Try.func9, Try.ntmps9
  have hsz : (Try.prog.info? 55).map (·.size) = some Y.size := by rw [z3]; kernel_rfl
  have hone : Y.all (·.oneCell') = true := by rw [← HY.out]; simp [usA, Value.oneCell']
  have x2 : At ((w.alloc (.cells #[] 28)).alloc (.cells Y 55)) (w.heap.size + 1) 55 Y := by
    have := At.new (w.alloc (.cells #[] 28)) 55 Y
    simpa using this
  go_upto_region 4 with (first
    | (go_at_call 25; refine (hmod _).mono ?_; rintro e w1 ⟨rfl, rfl⟩)
    | (refine wpList_store_row rfl 55 _ _ rfl (w.heap.size + 1) Y rfl rfl 55 Y x2 hsz rfl hone ?_))
  have hU : At (((w.alloc (.cells #[] 28)).alloc (.cells Y 55)).setRow (w.heap.size + 1) Y) (w.heap.size + 1) 55 (usA []) := by rw [HY.out]; exact x2.row Y
  have hO : At (((w.alloc (.cells #[] 28)).alloc (.cells Y 55)).setRow (w.heap.size + 1) Y) w.heap.size 28 #[] := ((At.new w 28 #[]).alloc _).rowfar (by omega) Y
  have hK : Keeps w (((w.alloc (.cells #[] 28)).alloc (.cells Y 55)).setRow (w.heap.size + 1) Y) := below_row (Keeps.alloc (Keeps.alloc (Below.refl _ _) _) _) (by omega) Y
  have hown0 : (((w.alloc (.cells #[] 28)).alloc (.cells Y 55)).setRow (w.heap.size + 1) Y).ownsRow w.heap.size 28 3 (.slice (some ⟨w.heap.size, 0, none⟩) 0 0) 0 [] := ⟨rfl, .inr ⟨w.heap.size, 0, #[], rfl, Nat.le_refl _, hO, Nat.le_refl _, Nat.zero_le _, rfl, rfl⟩⟩
  generalize (((w.alloc (.cells #[] 28)).alloc (.cells Y 55)).setRow (w.heap.size + 1) Y) = w2 at *
  clear x2 hO z1 z3 z4 hsz hone HY hmod
  have hw1 : (1 : Int) + ((d - 1 : Nat) : Int) = (d : Int) := by omega
  rw [hw1]
  obtain ⟨B, hB⟩ : ∃ B, w.heap.size + 1 = B := ⟨_, rfl⟩
  rw [hB] at hU ⊢
  clear hw1 hmw
  go_wp2_with fail
  go_loopw [10, 12] (fun u i wr => ∃ (k : Nat) (l : List Ed), k ≤ l0.length ∧ i = .int .i64 k ∧ wr.ownsRow w.heap.size 28 3 u l.length (ecs l) ∧ At wr B 55 (usA l) ∧ graphB d l = true ∧ l.length ≤ most ∧ (∀ x ∈ l, lo ≤ x.2.2) ∧ Keeps w wr) (fun _ i _ => l0.length - (intOf i).toNat)
  case atStart => exact ⟨0, [], Nat.zero_le _, rfl, hown0, hU, graphB_nil d hd1.1 hd1.2, Nat.zero_le _, fun x h => (by cases h), hK⟩
  case round =>
    clear hown0 hU hK
    obtain ⟨k, l, hk, rfl, hown, hU, hg, hlm, hlw, hb⟩ := hrel
    obtain ⟨A, c, rfl, hrd, hcap⟩ : ∃ A c, u10 = .slice A l.length c ∧ RdE wr (.slice A l.length c) l ∧ l.length ≤ c := by
      have hr := own_edges (l := l) hown (by unfold maxLen; omega)
      rcases hown.2 with ⟨rfl, h0⟩ | ⟨g, cap, cur, rfl, _, _, h1, _⟩
      · exact ⟨none, 0, by rw [h0], by rw [h0]; exact hr, by omega⟩
      · exact ⟨_, cap, rfl, hr, h1⟩
    by_cases hc : k < l0.length ∧ 1 < d ∧ l.length < most
    · obtain ⟨hk1, hd2, hl2⟩ := hc
      obtain ⟨b', off, u8, rfl, hcell, rfl⟩ := Hcs.out k hk1
      have hc4 := cell_keep hcell hb
      obtain ⟨x0, x1⟩ := Hxi.out k
      have hmx := Hmx.out k hk1
      obtain ⟨X, hX⟩ := Int.eq_ofNat_of_zero_le x0
      rw [hX] at hmx x1
      generalize nth l0 k = v0 at *
      have hXl : X < 1099511627776 := by omega
      clear hX x0 x1 hcell
      obtain ⟨a0, ha0⟩ : ∃ a0, X % d = a0 := ⟨_, rfl⟩
      obtain ⟨q, hq⟩ : ∃ q, X / d = q := ⟨_, rfl⟩
      obtain ⟨r, hr⟩ : ∃ r, q % (d - 1) = r := ⟨_, rfl⟩
      obtain ⟨b0, hb0⟩ : ∃ b0, (a0 + 1 + r) % d = b0 := ⟨_, rfl⟩
      have a0d : a0 < d := by rw [← ha0]; exact Nat.mod_lt _ (by omega)
      have rd : r < d - 1 := by rw [← hr]; exact Nat.mod_lt _ (by omega)
      have b0d : b0 < d := by rw [← hb0]; exact Nat.mod_lt _ (by omega)
      have hne : a0 ≠ b0 := by
        rw [← hb0]
        by_cases h : a0 + 1 + r < d
        · rw [Nat.mod_eq_of_lt h]; omega
        · rw [Nat.mod_eq_sub_mod (by omega), Nat.mod_eq_of_lt (by omega)]; omega
      have hql : q ≤ 1099511627776 := by have := Nat.div_le_self X d; omega
      have f1 : (X : Int).tmod (d : Int) = (a0 : Int) := by rw [Int.tmod_eq_emod_of_nonneg (by omega), ← ha0]; exact (Int.natCast_emod X d).symm
      have f3 : (X : Int).tdiv (d : Int) = (q : Int) := by rw [Int.tdiv_eq_ediv_of_nonneg (by omega), ← hq]; exact (Int.natCast_ediv X d).symm
      have f5 : (q : Int).tmod ((d : Int) - 1) = (r : Int) := by rw [Int.tmod_eq_emod_of_nonneg (by omega), ← hr, show (d : Int) - 1 = ((d - 1 : Nat) : Int) by omega]; exact (Int.natCast_emod q (d - 1)).symm
      have f6 : ((a0 : Int) + 1 + (r : Int)).tmod (d : Int) = (b0 : Int) := by rw [Int.tmod_eq_emod_of_nonneg (by omega), ← hb0, show (a0 : Int) + 1 + (r : Int) = ((a0 + 1 + r : Nat) : Int) by omega]; exact (Int.natCast_emod _ d).symm
      have hkI : (k : Int) < (l0.length : Int) := by omega
      have hdI : (1 : Int) < (d : Int) := by omega
      have hlI : (l.length : Int) < (most : Int) := by omega
      clear ha0 hq hr hb0
      go_upto_region 11 with (go_at_call 25; refine (hmx _).mono ?_; rintro e w1 ⟨rfl, rfl⟩)
      obtain ⟨a, b, hab, hbd, e1, e2⟩ : ∃ a b : Nat, a < b ∧ b < d ∧ (if b0 < a0 then (b0 : Int) else (a0 : Int)) = (a : Int) ∧ (if a0 < b0 then (b0 : Int) else (a0 : Int)) = (b : Int) := by
        by_cases h : a0 < b0
        · exact ⟨a0, b0, h, b0d, by rw [if_neg (by omega)], by rw [if_pos h]⟩
        · exact ⟨b0, a0, by omega, a0d, by rw [if_pos (by omega)], by rw [if_neg h]⟩
      rw [e1, e2]
      clear e1 e2 f1 f5 f6 hne a0d b0d rd hc4
      have hj : a * 12 + b < 144 := by omega
      have hcu := (hU.cell (a * 12 + b)).trans (usA_at l _ hj)
      have haI : (a : Int) < 12 := by omega
      have hbI : (b : Int) < 12 := by omega
      obtain ⟨U, hUe⟩ : ∃ U, (l.any fun x => decide (x.1 * 12 + x.2.1 = ((a * 12 + b : Nat) : Int))) = U := ⟨_, rfl⟩
      rw [hUe] at hcu
      have HUe := Lib.hid hUe
      clear hUe
      cases U with
      | true =>
        go_wp2_with fail
        go_roundw
        case rel => exact ⟨k + 1, l, by omega, by go_num, hown, hU, hg, hlm, hlw, hb⟩
        case measure => simp [intOf]; omega
      | false =>
        have hfz := hU.frozen (a * 12 + b)
        obtain ⟨q2, hq2⟩ : ∃ q2, q / d = q2 := ⟨_, rfl⟩
        have hq2l : q2 ≤ 1099511627776 := by have := Nat.div_le_self q d; omega
        have f8 : (q : Int).tdiv (d : Int) = (q2 : Int) := by rw [Int.tdiv_eq_ediv_of_nonneg (by omega), ← hq2]; exact (Int.natCast_ediv q d).symm
        obtain ⟨r2, hr2⟩ : ∃ r2 : Int, (q2 : Int).tmod (50 - lo + 1) = r2 := ⟨_, rfl⟩
        have r2b : 0 ≤ r2 ∧ r2 < 50 - lo + 1 := by
          rw [← hr2, Int.tmod_eq_emod_of_nonneg (by omega)]
          exact ⟨Int.emod_nonneg _ (by omega), Int.emod_lt_of_pos _ (by omega)⟩
        have hz : ¬ (50 - lo + 1 = 0) := by omega
        clear hq2
        go_upto_region 13 with fail
        have hne : some B ≠ (Value.slice A l.length c).ownBlock := own_ne hown hU (by decide)
        have hown2 := own_set (o := a * 12 + b) (u := .bool true) hown hne
        have hU2 : At (wr.setCell ⟨B, a * 12 + b, none⟩ (.bool true)) B 55 (usA (l ++ [((a : Int), (b : Int), lo + r2)])) := by rw [← usA_set]; exact hU.set _ _
        have k2 : Keeps w (wr.setCell ⟨B, a * 12 + b, none⟩ (.bool true)) := Keeps.setp hb B (by omega) _ _
        have hg2 := graphB_snoc d l hg (by omega) a b (lo + r2) hab hbd (by omega) HUe.out
        have hsn : ecs (l ++ [((a : Int), (b : Int), lo + r2)]) = ecs l ++ [.int .i64 a, .int .i64 b, .int .i64 (lo + r2)] := by simp [ecs]
        have Hsn := Lib.hid hsn
        have hln : (l ++ [((a : Int), (b : Int), lo + r2)]).length = l.length + 1 := by simp
        have Hln := Lib.hid hln
        have Hw : Hid (∀ x ∈ l ++ [((a : Int), (b : Int), lo + r2)], lo ≤ x.2.2) := Lib.hid fun x hx => by
          rcases List.mem_append.1 hx with h | h
          · exact hlw x h
          · rw [List.mem_singleton] at h; subst h; show lo ≤ lo + r2; omega
        have B1 : l.length + 1 ≤ maxLen := by unfold maxLen; omega
        have B2 : (l.length + 1) * 24 ≤ 140737488355328 := by omega
        generalize wr.setCell ⟨B, a * 12 + b, none⟩ (.bool true) = w3 at *
        have hbs := own_base hown2
        have hlt2 := k2.size
        have hBne : some B ≠ (Value.slice A l.length c).ownBlock := hne
        clear hU hcu hfz hown hrd hg hlw hln hsn
        go_wp2_with (at_builtin; refine wpList_append_own_at _ rfl (.tmp 72) (.tmp 87) 23 rfl w.heap.size 28 i0 _ 3 24 Try.underlying23 hi hz0 hz1 hz2 rfl (by decide) _ l.length (ecs l) rfl (own_later hown2 (Keeps.alloc (Below.refl _ _) _)) _ 1 1 [.int .i64 a, .int .i64 b, .int .i64 (lo + r2)] rfl rfl (new_cells _ _ _ _ rfl) (by simp [Value.oneCell']) B1 B2 (by simp; omega) ?_; intro v9 w9 hown9 hgrow9 _ hl9)
        have k9 : Keeps w w9 := (Keeps.alloc k2 _).grown hgrow9 (by simp; omega) (fun r hr => hbs r hr)
        have hU9 : At w9 B 55 (usA (l ++ [((a : Int), (b : Int), lo + r2)])) := (hU2.alloc _).grown hgrow9 hBne
        go_roundw
        case rel => exact ⟨k + 1, l ++ [((a : Int), (b : Int), lo + r2)], by omega, by go_num, by rw [Hsn.out, Hln.out]; exact hown9, hU9, hg2, by rw [Hln.out]; omega, Hw.out, k9⟩
        case measure => simp [intOf]; omega
    · have hout : k = l0.length ∨ d = 1 ∨ l.length = most := by omega
      have hfin : ∃ (l' : List Ed) (A' : Option Addr) (c' : Nat), Ending.returned (.tuple #[.int .i64 d, .slice A l.length c]) = .returned (.tuple #[.int .i64 d, .slice A' l'.length c']) ∧ RdE wr (.slice A' l'.length c') l' ∧ l'.length ≤ c' ∧ graphB d l' = true ∧ l'.length ≤ most ∧ (∀ x ∈ l', lo ≤ x.2.2) ∧ Keeps w wr := ⟨l, A, c, rfl, hrd, hcap, hg, hlm, hlw, hb⟩
      have Hfin := Lib.hid hfin
      clear hfin
      by_cases h1 : k < l0.length
      · have hkI : (k : Int) < (l0.length : Int) := by omega
        by_cases h2 : 1 < d
        · have hdI : (1 : Int) < (d : Int) := by omega
          have hlI : ¬ (l.length : Int) < (most : Int) := by omega
          go_wp2_with fail
          go_ret2
          exact Hfin.out
        · have hdI : ¬ (1 : Int) < (d : Int) := by omega
          go_wp2_with fail
          go_ret2
          exact Hfin.out
      · obtain rfl : k = l0.length := by omega
        go_wp2_with fail
        go_ret2
        exact Hfin.out
end Go.Proofs.Ytngonghgkeobhaa
