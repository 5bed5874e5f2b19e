/- The reference's Renumber. -/
import Derived.Test.YtikedhkibdeheaaQc
import Derived.Test.YtikedhkibdeheaaKa
import Derived.Test.YtikedhkibdeheaaPw
import Derived.Maps.AppendAt
namespace Go.Proofs.Ytikedhkibdeheaa
open Go.RowKit Go.Deep
set_option linter.unusedVariables false

/-- The places of the sheets in the new order, k of them laid; the new table. -/
def plK (L : List Fd) (k : Nat) : List Int := (List.range k).foldl (fun P i => P.set (sh L i).toNat (i : Int)) (List.replicate L.length 0)
theorem plK_succ (L : List Fd) (k : Nat) : plK L (k + 1) = (plK L k).set (sh L k).toNat (k : Int) := by simp [plK, List.range_succ]
theorem plK_length (L : List Fd) (k : Nat) : (plK L k).length = L.length := by
  induction k with
  | zero => simp [plK]
  | succ k ih => rw [plK_succ, List.length_set, ih]
def renC (L : List Fd) (l : List Int) (k : Nat) : List Int := (List.range k).map fun i => nth (plK L L.length) (nth l (sh L i).toNat).toNat
theorem renC_succ (L : List Fd) (l : List Int) (k : Nat) : renC L l (k + 1) = renC L l k ++ [nth (plK L L.length) (nth l (sh L k).toNat).toNat] := by simp [renC, List.range_succ]
theorem renC_length (L : List Fd) (l : List Int) (k : Nat) : (renC L l k).length = k := by simp [renC]
def renT (t : List (List Int)) (s : Int) : List (List Int) := t.map fun l => renC (numT t s) l (numT t s).length
theorem renT_length (t : List (List Int)) (s : Int) : (renT t s).length = t.length := by simp [renT]
theorem renT_at (t : List (List Int)) (s : Int) (k : Nat) (l : List Int) (h : t[k]? = some l) : (renT t s)[k]? = some (renC (numT t s) l (numT t s).length) := by simp [renT, h]

set_option maxHeartbeats 8000000 in
set_option maxRecDepth 100000 in
theorem rrenumber_c (v : Value) (t : List (List Int)) (hB : windB t = true) (w : World) (hv : RdT w v t) (s : Int) (hs : 0 ≤ s ∧ s < shN t) (hL : (numT t s).length = shN t) :
    Calls Try.prog 53 #[v, .int .i64 s] w fun e w' => ∃ u, e = .returned u ∧ RdT w' u (renT t s) ∧ Keeps w w' := by
  obtain ⟨b, off, c, A, c0, rfl, _⟩ := rdT_first hB hv
  obtain ⟨h12, d1, d5, _⟩ := windB_parts t hB
  have hnum := rnumbering_c b off c t hB w hv s hs
  have hok := nums_ok (shN t) (windW t) (windW_okd t hB) (by omega) (2 * t.length) (by omega) s hs 25
  change numOk (shN t) (numT t s) at hok
  change Calls _ _ _ _ (fun e w' => ∃ u y, e = .returned (.tuple #[u, y]) ∧ RdI w' u (shs (numT t s)) ∧ RdS w' y _ ∧ Keeps w w') at hnum
  have hrl := renT_length t s
  have hrat := renT_at t s
  have hcol := fun k l hl => col_of t hB k l hl
  generalize hT : renT t s = T at *
  generalize numT t s = L at *
  have Hok := Lib.hid hok
  have Hrat := Lib.hid hrat
  have Hcol := Lib.hid hcol
  have HL := Lib.hid hL
  have hL1 : 1 ≤ L.length := by omega
  have hL5 : L.length ≤ 5 := by omega
  have hmk := fun x => makeD L.length hL1 hL5 x
  have hsl := shs_length L
  have Hsl := Lib.hid hsl
  obtain ⟨i0, hi, hz0, hz1, hz2⟩ := info_parts infoI
  obtain ⟨j0, hj, hy0, hy1, hy2⟩ := info_parts infoRow
  have ht2 : t.length ≤ 2 := by omega
  have ht1 : 1 ≤ t.length := by omega
  clear hok hrat hcol hL hT hs h12
  rw [← hsl] at hmk
  go_enter Try.func53, Try.ntmps53
  go_wp2_with (go_at_call 54; refine hnum.mono ?_; rintro e w1 ⟨u, y, rfl, hu, -, hb1⟩; obtain ⟨A1, c1, rfl, hm1, hcs1⟩ := id hu; have hv1 := hv.below hb1; rw [Hsl.out] at hmk)
  have hm1' := hm1
  unfold maxLen at hm1'
  have hcell1 : ∀ k, k < L.length → ∃ b1 off1, A1 = some ⟨b1, off1, none⟩ ∧ w1.cell? ⟨b1, off1 + k, none⟩ = some (.int .i64 (sh L k)) := by
    intro k hk
    obtain ⟨b1, off1, u, hA, hc, rfl⟩ := hcs1 k (by rw [Hsl.out]; exact hk)
    exact ⟨b1, off1, hA, by rw [hc, nth_shs L k hk]⟩
  obtain ⟨b1, off1, rfl, -⟩ := hcell1 0 (by omega)
  have hcell : ∀ k, k < L.length → w1.cell? ⟨b1, off1 + k, none⟩ = some (.int .i64 (sh L k)) := by
    intro k hk
    obtain ⟨b2, off2, hA, hc⟩ := hcell1 k hk
    cases hA; exact hc
  have hshb : ∀ k, k < L.length → ∃ m : Nat, sh L k = (m : Int) ∧ m < L.length := by
    intro k hk
    obtain ⟨h0, h1⟩ := Hok.out.2.2 _ (List.getElem_mem (show k < (shs L).length by rw [Hsl.out]; exact hk))
    have e := nth_shs L k hk
    rw [nth, List.getElem?_eq_getElem (by rw [Hsl.out]; exact hk)] at e
    have e' : (shs L)[k]'(by rw [Hsl.out]; exact hk) = sh L k := e
    rw [e'] at h0 h1
    exact ⟨(sh L k).toNat, by omega, by have := HL.out; omega⟩
  have Hcell := Lib.hid hcell
  have Hshb := Lib.hid hshb
  clear hcell1 hcell hshb hcs1 hv
  go_loopw [8] (fun i wr => ∃ k : Nat, k ≤ L.length ∧ i = .int .i64 k ∧ At wr w1.heap.size 3 (ic (plK L k)) ∧ Keeps w1 wr) (fun i _ => L.length - (intOf i).toNat)
  case atStart => exact ⟨0, Nat.zero_le _, rfl, At.new w1 _ _, Keeps.alloc (Below.refl _ _) _⟩
  case round =>
    obtain ⟨k, hk, rfl, hat, hb⟩ := hrel
    by_cases hlt : k < L.length
    · have hc := cell_keep (Hcell.out k hlt) hb
      obtain ⟨m, hm, hml⟩ := Hshb.out k hlt
      rw [hm] at hc
      have hlen := plK_length L k
      have hc2 := hat.int m (by rw [hlen]; omega)
      have hf2 := hat.frozen m
      have Hs := Lib.hid (show plK L (k + 1) = (plK L k).set m (k : Int) by rw [plK_succ, hm, Int.toNat_natCast])
      clear hm
      go_wp2_with fail
      go_roundw
      case rel => exact ⟨k + 1, by omega, by go_num, by rw [Hs.out, ← ic_set]; exact hat.set m _, hb.setCell (by simp) _⟩
      case measure => simp [intOf]; omega
    · obtain rfl : k = L.length := by omega
      obtain ⟨P, hP⟩ : ∃ P, P = plK L L.length := ⟨_, rfl⟩
      rw [← hP] at hat
      have hPl : P.length = L.length := by rw [hP, plK_length]
      have Hcell3 := Lib.hid (fun k (hk : k < L.length) => cell_keep (Hcell.out k hk) hb)
      have Hpl := Lib.hid (fun m (hm : m < L.length) => hat.int m (by rw [hPl]; exact hm))
      have hv3 := (RdT.below hv1 hb)
      have hkw := hb1.next hb
      have HP := Lib.hid hP
      clear Hcell hat hPl hb hv1 hu hP hnum
      go_wp2_with fail
      generalize wr = w3 at *
      go_loopw [9, 10] (fun u i wr => ∃ (k : Nat) (us : List Value), k ≤ t.length ∧ i = .int .i64 k ∧ us.length = k ∧ wr.ownsRow w3.heap.size 35 1 u k us ∧
        (∀ (j : Nat) (x : Value), us[j]? = some x → ∃ l, T[j]? = some l ∧ RdIB (fun r => w3.heap.size ≤ r ∧ some r ≠ u.ownBlock) wr x l) ∧ Keeps w3 wr) (fun _ i _ => t.length - (intOf i).toNat)
      case atStart => exact ⟨0, [], by omega, rfl, rfl, World.ownsRow_nil _ _ _ _, fun j u h => by simp at h, Below.refl _ _⟩
      case round =>
        obtain ⟨k, us, hk, rfl, hus, hown, hrd, hb⟩ := hrel
        have hsz := hb.size
        have Hus := Lib.hid hus
        have Hrd := Lib.hid hrd
        have Holt := Lib.hid (own_lt hown)
        have Hobs := Lib.hid (own_base hown)
        clear hus hrd
        by_cases hlt : k < t.length
        · have Hcell4 := Lib.hid (fun k (hk : k < L.length) => cell_keep (Hcell3.out k hk) hb)
          have Hpl4 := Lib.hid (fun m (hm : m < L.length) => cell_keep (Hpl.out m hm) hb)
          obtain ⟨_, _, he, _, hcs4⟩ := RdT.below hv3 hb
          cases he
          obtain ⟨b4, off4, x4, hA4, hc4, l, hl, hr4⟩ := hcs4 k hlt
          cases hA4
          obtain ⟨A5, c5, rfl, hm5, hcs5⟩ := hr4
          have HT := Lib.hid (Hrat.out k l hl)
          have Hc := Lib.hid (Hcol.out k l hl)
          unfold maxLen at hm5
          have hlc : l.length = L.length := by rw [Hc.out.1, HL.out]
          have hcell5 : ∃ b5 off5, A5 = some ⟨b5, off5, none⟩ ∧ ∀ m, m < L.length → wr.cell? ⟨b5, off5 + m, none⟩ = some (.int .i64 (nth l m)) := by
            obtain ⟨b5, off5, _, rfl, _, _⟩ := hcs5 0 (by omega)
            refine ⟨b5, off5, rfl, fun m hm => ?_⟩
            obtain ⟨_, _, _, h1, h2, rfl⟩ := hcs5 m (by omega)
            cases h1; exact h2
          obtain ⟨b5, off5, rfl, hcell5⟩ := hcell5
          have Hcell5 := Lib.hid hcell5
          have Hnl := Lib.hid (fun m (hm : m < L.length) => Hc.out.2.2.2.2 m (by omega))
          clear hcell5 hcs5 hcs4
          go_wp2_with fail
          generalize wr = w4 at *
          go_loopw [11, 12] (fun c j wr => ∃ q : Nat, q ≤ L.length ∧ j = .int .i64 q ∧ wr.ownsRow w4.heap.size 3 1 c q ((renC L l q).map (Value.int .i64)) ∧ Keeps w4 wr) (fun _ j _ => L.length - (intOf j).toNat)
          case atStart => exact ⟨0, by omega, rfl, World.ownsRow_nil _ _ _ _, Below.refl _ _⟩
          case round =>
            obtain ⟨q, hq, rfl, hown5, hb5⟩ := hrel
            have hsz5 := hb5.size
            have Hobs5 := Lib.hid (own_base hown5)
            by_cases hql : q < L.length
            · obtain ⟨m, hm, hml⟩ := Hshb.out q hql
              obtain ⟨hx0, hx1⟩ := Hnl.out m hml
              obtain ⟨x, hx⟩ : ∃ x : Nat, nth l m = (x : Int) := ⟨(nth l m).toNat, by omega⟩
              have hxl : x < L.length := by have := HL.out; omega
              have c1 := cell_keep (Hcell4.out q hql) hb5
              have c2 := cell_keep (Hcell5.out m hml) hb5
              have c3 := cell_keep (Hpl4.out x hxl) hb5
              have c4 := cell_keep hc4 hb5
              rw [hm] at c1
              rw [hx] at c2
              have Hs := Lib.hid (show renC L l (q + 1) = renC L l q ++ [nth P x] by rw [renC_succ, ← HP.out, hm, Int.toNat_natCast, hx, Int.toNat_natCast])
              have s5 : q + 1 ≤ maxLen := by unfold maxLen; omega
              have s4 : (q + 1) * 8 ≤ 140737488355328 := by omega
              have hs2 : w4.heap.size ≤ (wr.drew.alloc (.cells #[.int .i64 (nth P x)] 3)).heap.size := by simp; omega
              clear hm hx hx0 hx1 hc4
              go_wp2_with fail
              go_region_law (refine step_append_lies _ rfl (.tmp 47) (.tmp 61) 35 rfl w4.heap.size 3 i0 (.int .i64 0) 1 8 Try.underlying35 hi hz0 hz1 hz2 rfl (by decide) u11 q _ rfl ((show World.ownsRow wr.drew _ _ _ _ _ _ from hown5).alloc _) ⟨wr.heap.size, 0, none⟩ 1 1 [.int .i64 (nth P x)] rfl rfl (new_cells _ _ _ _ rfl) (by simp [Value.oneCell']) (by decide) s5 s4 hs2 (wr.heap.size + 1) (by simp) ?_; intro g6 cap6 w6 hown6 hgrow6 hlie6 _)
              all_goals
                go_wp2_with fail
                go_roundw
                case rel => exact ⟨q + 1, by omega, by go_num, by rw [Hs.out, List.map_append]; exact hown6, below_grown'' (Keeps.alloc hb5.drew _) hgrow6 Hobs5.out (by simp; omega)⟩
                case measure => simp [intOf]; omega
            · obtain rfl : q = L.length := by omega
              obtain ⟨g6, cap6, rfl, hg6, hg6', _, _, _⟩ := own_form hown5 hL1
              have hown' := own_later hown hb5
              have s5 : k + 1 ≤ maxLen := by unfold maxLen; omega
              have s4 : (k + 1) * 24 ≤ 140737488355328 := by omega
              have hs2 : w3.heap.size ≤ (wr.alloc (.cells #[.slice (some ⟨g6, 0, none⟩) L.length cap6] 35)).heap.size := by simp; omega
              go_upto_region 10 with (at_builtin; refine wpList_append_own_at _ rfl (.tmp 63) (.tmp 65) 49 rfl w3.heap.size 35 j0 (.slice none 0 0) 1 24 Try.underlying49 hj hy0 hy1 hy2 rfl (by decide) _ k us rfl (hown'.alloc _) ⟨wr.heap.size, 0, none⟩ 1 1 [.slice (some ⟨g6, 0, none⟩) L.length cap6] rfl rfl (new_cells _ _ _ _ rfl) (by simp [Value.oneCell']) s5 s4 hs2 ?_; intro v7 w7 hown7 hgrow7 _ hl7)
              obtain ⟨g7, cap7, rfl, _, _, _, _, _⟩ := own_form hown7 (by omega)
              go_wp2_with fail
              go_roundw
              case rel => exact ⟨k + 1, us ++ [.slice (some ⟨g6, 0, none⟩) L.length cap6], by omega, by go_num, by simp [Hus.out], hown7, copy_step (w2 := wr) Hus.out Hrd.out HT.out hsz Holt.out (Holds.of_keeps hb5 _) (own_ints (by rw [renC_length]; exact hown5) (by rw [renC_length]; unfold maxLen; omega)) _ hgrow7 (hl7.imp (fun e => e.symm) (fun e => by simpa [Value.ownBlock] using e)) _ _, below_grown'' (Keeps.alloc (hb.next hb5) _) hgrow7 Hobs.out (by simp; omega)⟩
              case measure => simp [intOf]; omega
        · obtain rfl : k = t.length := by omega
          have HkT := Lib.hid (show t.length = T.length by omega)
          have HT3 := Lib.hid (show T.length ≤ 3 by omega)
          go_wp2_with fail
          go_ret
          exact ⟨_, rfl, copy_end Hus.out HkT.out HT3.out hown Hrd.out, hkw.next hb⟩
end Go.Proofs.Ytikedhkibdeheaa
