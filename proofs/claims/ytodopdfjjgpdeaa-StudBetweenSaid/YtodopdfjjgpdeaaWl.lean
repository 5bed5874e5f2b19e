/- The law Between. -/
import Derived.Test.YtodopdfjjgpdeaaWi
import Derived.Test.YtodopdfjjgpdeaaVl
import Derived.Deep.Cut
namespace Go.Proofs.Ytodopdfjjgpdeaa
open Go.RowKit Go.Shelf
set_option linter.unusedVariables false
set_option linter.unusedSimpArgs false

theorem find_first {α : Type} {p : α → Bool} {xs : List α} {a : α} (h : xs.find? p = some a) : p a = true ∧ ∃ i : Nat, xs[i]? = some a ∧ ∀ (j : Nat) (y : α), j < i → xs[j]? = some y → p y = false := by
  obtain ⟨h1, i, hi, h2, h3⟩ := List.find?_eq_some_iff_getElem.1 h
  refine ⟨h1, i, by rw [List.getElem?_eq_getElem hi, h2], fun j y hj hy => ?_⟩
  obtain ⟨hj', rfl⟩ := List.getElem?_eq_some_iff.1 hy
  simpa using h3 j hj
theorem sorted_at {xs : List (List Int)} (hp : xs.Pairwise fun a b => lowB a b = true) {i j : Nat} {x y : List Int} (hx : xs[i]? = some x) (hy : xs[j]? = some y) (h : i < j) : lowB x y = true := by
  obtain ⟨h1, rfl⟩ := List.getElem?_eq_some_iff.1 hx
  obtain ⟨h2, rfl⟩ := List.getElem?_eq_some_iff.1 hy
  exact List.pairwise_iff_getElem.1 hp i j h1 h2 h
/-- Completing a beginning of the next clear order. -/
theorem between (d : Nat) (o x : List Int) (ho : o.length = d) (hx : (clrs [] d).find? (lowB o) = some x) (k : Nat) (hk : k ≤ d) :
    x.length = d ∧ rowsB d x = true ∧ clearB x = true ∧ ∃ y, (clrs (x.take k) d)[0]? = some y ∧ y.length = d ∧ lowB x y = false ∧ ∀ q, q ≤ d → (∀ j, j < q → nth o j = nth x j) → (q < d → nth o q ≠ nth x q) → q < k → x = y := by
  have hs := clrs_sorted [] d
  obtain ⟨hlo, i, hi, hbe⟩ := find_first hx
  have hxm := List.mem_of_getElem? hi
  have hxl := clrs_len (Nat.zero_le _) hxm
  obtain ⟨g1, g2⟩ := clrs_good hxm
  have hkl : (x.take k).length = k := by rw [List.length_take]; omega
  have hbf := begin_first d (x.take k) (rowsB_take _ _ _ g1) (by omega)
  rw [hkl] at hbf
  refine ⟨hxl, g1, g2, ?_⟩
  cases hy : (clrs [] d).find? (fun z => decide (z.take k = x.take k)) with
  | none =>
    have := List.find?_eq_none.1 hy x hxm
    simp at this
  | some y =>
    rw [hy] at hbf
    obtain ⟨hpy, j, hj, hb2⟩ := find_first hy
    have hpy := of_decide_eq_true hpy
    have hyl := clrs_len (Nat.zero_le _) (List.mem_of_getElem? hj)
    have hji : j ≤ i := by
      rcases Nat.lt_or_ge i j with h | h
      · have := hb2 i x h hi
        simp at this
      · exact h
    refine ⟨y, hbf.symm, hyl, ?_, fun q hqd hq1 hq2 hqk => ?_⟩
    · by_cases e : j = i
      · subst e
        rw [hi] at hj
        cases hj
        exact lowB_irr x
      · exact lowB_asym (sorted_at hs hj hi (by omega))
    · have hqd' : q < d := by omega
      have hne := hq2 hqd'
      have hcx := cmpL_at q o x (by omega) (by omega) hq1 hne
      have hlt : nth o q < nth x q := by
        unfold lowB at hlo
        rw [hcx] at hlo
        by_cases h : nth o q < nth x q
        · exact h
        · rw [if_neg h] at hlo
          simp at hlo
      have hny : ∀ m, m < k → nth y m = nth x m := fun m hm => by
        rw [nth_of_take hpy hm]
        exact nth_take _ _ _ hm
      have hcy := cmpL_at q o y (by omega) (by omega) (fun m hm => by rw [hny m (by omega)]; exact hq1 m hm) (by rw [hny q hqk]; exact hne)
      have hly : lowB o y = true := by
        unfold lowB
        rw [hcy, hny q hqk, if_pos hlt]
        rfl
      have hij : i ≤ j := by
        rcases Nat.lt_or_ge j i with h | h
        · have := hbe j y h hj
          rw [hly] at this
          cases this
        · exact h
      obtain rfl : i = j := by omega
      rw [hi] at hj
      exact Option.some.inj hj
theorem nx_somec (d : Nat) (d5 : d ≤ 7) (A : Option Addr) (c : Nat) (l : List Int) (hll : l.length = d) (ho : ordB l = true) (x : List Int) (hf : (clrs [] d).find? (lowB l) = some x) (w : World) (hv : RdI w (.slice A d c) l) :
    Calls Try.prog 8 #[.slice A d c] w fun e w' => ∃ b cc, e = .returned (.tuple #[.slice (some ⟨b, 0, none⟩) d cc, .int .i64 0]) ∧ d ≤ cc ∧ RdI w' (.slice (some ⟨b, 0, none⟩) d cc) x ∧ Keeps w w' := by
  refine (next_yes d d5 A c l hll ho w hv).mono ?_
  rintro e w' ⟨(⟨h0, rfl⟩ | ⟨y, b, cc, hy, _, rfl, hc, hr⟩), hb⟩
  · rw [hf] at h0; cases h0
  · rw [hf] at hy; cases hy; exact ⟨b, cc, rfl, hc, hr, hb⟩
set_option maxHeartbeats 4000000 in
set_option maxRecDepth 100000 in
theorem law_between (n : Int) (v0 : Value) (l : List Int) (k : Int) (w : World) (hn : (Lit.int .i64 n).wf = true) (hv : RdI w v0 l) (hf : fits l) (hcap : Cap v0) (hk : (Lit.int .i64 k).wf = true) :
    Calls Try.prog 3 #[.int .i64 n, v0, .int .i64 k] w fun e w' => e = .returned (.bool true) ∧ Keeps w w' := by
  have hta := tame_c n v0 l 7 (by omega) (by omega) hn w hv hf
  clear hn hv hf hcap
  go_enter Try.func3, Try.ntmps3
  go_wp2_with (go_at_call 7; refine hta.mono ?_; rintro e w1 ⟨bL, cL, L, rfl, hLc, hl1, ho, hp7, hb1⟩)
  clear hta
  obtain ⟨d, hd⟩ : ∃ d, L.length = d := ⟨_, rfl⟩
  obtain ⟨ho1, ho2, ho3, -⟩ := ordB_parts L ho
  rw [hd] at ho1 ho2 hp7 hl1 hLc ⊢
  cases hF : (clrs [] d).find? (lowB L) with
  | none =>
    have hnx := nx_none d hp7 (some ⟨bL, 0, none⟩) cL L hd ho hF w1 hl1
    clear hF ho ho3
    go_wp2_with fail
    refine hnx.mono ?_
    rintro e w2 ⟨rfl, hb2⟩
    go_wp2_with (go_at_call 9; refine (awake_c _).mono ?_; rintro e w3 ⟨rfl, hb3⟩)
    go_ret
    exact ⟨rfl, (hb1.next hb2).next hb3⟩
  | some x =>
    have hnx := nx_somec d hp7 (some ⟨bL, 0, none⟩) cL L hd ho x hF w1 hl1
    have hm := fun X => mod_c k ((d : Int) + 1) hk (by omega) (by omega) X
    obtain ⟨a0, a1⟩ := modN_in k ((d : Int) + 1) (by omega)
    generalize modN k ((d : Int) + 1) = mk at *
    obtain ⟨q, rfl⟩ := Int.eq_ofNat_of_zero_le a0
    have hqd : q ≤ d := by omega
    obtain ⟨hxl, g1, g2, y, hy, hyl, hlo, hsame⟩ := between d L x hd hF q hqd
    have hlx := (find_first hF).1
    have hox : ordB x = true := by
      unfold ordB
      rw [hxl, g1, decide_eq_true ⟨ho1, by omega⟩]
      rfl
    have hro := fun b c X h => rorder_c (.slice (some ⟨b, 0, none⟩) d c) x X h
    rw [hox] at hro
    have hcl := fun b c X h => risclear_c (some ⟨b, 0, none⟩) c x hox X h
    rw [hxl, g2] at hcl
    have hb1' := fun v v' X h h' => before_c v v' L x d hd hxl X h h'
    rw [hlx] at hb1'
    have hb2' := fun v v' X h h' => before_c v v' x y d hxl hyl X h h'
    rw [hlo] at hb2'
    have hqI : (q : Int) ≤ d := by omega
    have hkt : (x.take q).length = q := by rw [List.length_take]; omega
    have hcp := fun b c hc X h => complete_some d ho1 hp7 (some ⟨b, 0, none⟩) c q (x.take q) hkt hqd (rowsB_take _ _ _ g1) hc y hy X h
    have hd1 : IntKind.i64.wrap ((d : Int) + 1) = (d : Int) + 1 := IntWalk.i64_in _ (by omega)
    have Hsame := Lib.hid hsame
    have Hd := Lib.hid hd
    have Hxl := Lib.hid hxl
    clear hF ho ho3 hk a0 a1 hsame hy g1 g2 hlx hlo hox hd hxl hyl hkt
    go_wp2_with fail
    refine hnx.mono ?_
    rintro e w2 ⟨b, cc, rfl, hcc, hx2, hb2⟩
    have hl2 := hl1.below hb2
    have hxq : RdI w2 (.slice (some ⟨b, 0, none⟩) q cc) (x.take q) := RdI_take (by rw [Hxl.out]; exact hx2) (by rw [Hxl.out]; exact hqd)
    have hk2 := hb1.next hb2
    have hqcc : q ≤ cc := by omega
    have hqccI : (q : Int) ≤ cc := by omega
    have hdccI : (d : Int) ≤ cc := by omega
    clear hnx
    go_upto_region 8 with (first
      | (go_at_call 10; refine (hro _ _ _ hx2).mono ?_; rintro e w3 ⟨rfl, hb3⟩)
      | (go_at_call 11; refine (hb1' _ _ _ (hl2.below hb3) (hx2.below hb3)).mono ?_; rintro e w4 ⟨rfl, m4, rfl⟩)
      | (go_at_call 12; refine (hcl _ _ _ (hx2.below (below_drewN hb3))).mono ?_; rintro e w5 ⟨rfl, hb5⟩))
    have hb25 : Keeps w2 w5 := Keeps.next (below_drewN hb3) hb5
    have hl5 := hl2.below hb25
    have hx5 := hx2.below hb25
    have hxq5 := hxq.below hb25
    have hk5 := hk2.next hb25
    obtain ⟨_, _, e1, -, hcl5⟩ := id hl5
    rw [Hd.out] at e1 hcl5
    cases e1
    obtain ⟨_, _, e2, -, hcx5⟩ := id hx5
    rw [Hxl.out] at e2 hcx5
    cases e2
    go_loopw [10] (fun i wr => ∃ s : Nat, s ≤ d ∧ i = .int .i64 s ∧ (∀ j, j < s → nth L j = nth x j) ∧ ∃ m, wr = w5.drewN m) (fun i _ => d - (intOf i).toNat)
    case atStart => exact ⟨0, Nat.zero_le _, rfl, fun j h => by omega, 0, rfl⟩
    case round =>
      obtain ⟨s, hs, rfl, hsm, m, rfl⟩ := hrel
      have Hsm := Lib.hid hsm
      clear hsm
      have hgo : ¬ (s < d ∧ nth L s = nth x s) → q ≤ s ∨ x = y := fun h => by
        rcases Nat.lt_or_ge s q with h1 | h1
        · exact .inr (Hsame.out s hs Hsm.out (fun h2 h3 => h ⟨h2, h3⟩) h1)
        · exact .inl h1
      have Hgo := Lib.hid hgo
      clear hgo
      by_cases hst : s < d ∧ nth L s = nth x s
      · obtain ⟨h1, h2⟩ := hst
        obtain ⟨_, _, _, e3, c1, rfl⟩ := hcl5 s h1
        cases e3
        obtain ⟨_, _, _, e4, c2, rfl⟩ := hcx5 s h1
        cases e4
        have hE : (nth L s == nth x s) = true := by simp [h2]
        have h1I : (s : Int) < d := by omega
        rw [Nat.zero_add] at c1 c2
        have Hs := Lib.hid h2
        clear h2 hcl5 hcx5 hl2 hx2 hxq
        have Hr : Hid (∀ j, j < s + 1 → nth L j = nth x j) := Lib.hid fun j hj => by
          by_cases h : j < s
          · exact Hsm.out j h
          · rw [show j = s by omega]; exact Hs.out
        clear Hs
        generalize nth L s = y1 at c1 hE
        generalize nth x s = y2 at c2 hE
        go_wp2_with fail
        go_quiet (fail)
        go_wp2_with fail
        go_roundw
        case rel => exact ⟨s + 1, by omega, by go_num, Hr.out, m + nq, by first | rfl | exact World.drewN_drewN _ _ _⟩
        case measure => simp [intOf]; omega
      · have hor := Hgo.out hst
        have Hor := Lib.hid hor
        clear hor
        rcases Nat.lt_or_ge s d with h1 | h1
        · obtain ⟨_, _, _, e3, c1, rfl⟩ := hcl5 s h1
          cases e3
          obtain ⟨_, _, _, e4, c2, rfl⟩ := hcx5 s h1
          cases e4
          have h1I : (s : Int) < d := by omega
          rw [Nat.zero_add] at c1 c2
          have hE : (nth L s == nth x s) = false := by rw [beq_eq_false_iff_ne]; exact fun e => hst ⟨h1, e⟩
          clear hst hcl5 hcx5 hl2 hx2 hxq
          generalize nth L s = y1 at c1 hE
          generalize nth x s = y2 at c2 hE
          go_wp2_with fail
          go_quiet (fail)
          have hW : ∃ W, (w5.drewN m).drewN nq = W ∧ Keeps w5 W := ⟨_, rfl, below_drewN (below_drewN (Below.refl _ _))⟩
          obtain ⟨W, hW, hkW⟩ := hW
          rw [hW]
          clear hW c1 c2 hE
          have hxW := hx5.below hkW
          have hxqW := hxq5.below hkW
          by_cases hqs : q ≤ s
          · have hqsI : (q : Int) ≤ s := by omega
            clear Hor
            go_wp2_with (first
              | (go_at_call 13; refine (hm _).mono ?_; rintro e w6 ⟨rfl, rfl⟩)
              | (go_at_call 14; refine (hcp b cc hqcc _ hxqW).mono ?_; rintro e w7 ⟨b7, c7, rfl, hyl7, hc7, hy7, hb7⟩; clear hyl7)
              | (go_at_call 11; refine (hb2' _ _ _ (hxW.below hb7) hy7).mono ?_; rintro e w8 ⟨rfl, m8, rfl⟩)
              | (go_at_call 9; refine (awake_c _).mono ?_; rintro e w9 ⟨rfl, hb9⟩))
            go_ret
            exact ⟨rfl, Keeps.next (below_drewN ((hk5.next hkW).next hb7)) hb9⟩
          · obtain rfl := Hor.out.resolve_left hqs
            have hqsI : decide ((q : Int) ≤ s) = false := by simp; omega
            have hqsN : decide (q ≤ s) = false := decide_eq_false hqs
            clear Hor hqs
            go_wp2_with (first
              | (go_at_call 13; refine (hm _).mono ?_; rintro e w6 ⟨rfl, rfl⟩)
              | (go_at_call 14; refine (hcp b cc hqcc _ hxqW).mono ?_; rintro e w7 ⟨b7, c7, rfl, hyl7, hc7, hy7, hb7⟩; clear hyl7)
              | (go_at_call 11; refine (hb2' _ _ _ (hxW.below hb7) hy7).mono ?_; rintro e w8 ⟨rfl, m8, rfl⟩)
              | (go_at_call 15; refine (ints_eq _ _ x _ (hxW.below (below_drewN hb7)) (hy7.below (below_drewN (Below.refl _ _)))).mono ?_; rintro e w9 ⟨rfl, hb9⟩)
              | (go_at_call 9; refine (awake_c _).mono ?_; rintro e w10 ⟨rfl, hb10⟩))
            go_ret
            exact ⟨rfl, Keeps.next (Keeps.next (below_drewN ((hk5.next hkW).next hb7)) hb9) hb10⟩
        · have hsd : decide ((s : Int) < d) = false := by simp; omega
          obtain rfl : s = d := by omega
          clear hst hcl5 hcx5 hl2 hx2 hxq Hor h1
          go_wp2_with fail
          go_quiet (fail)
          have hW : ∃ W, (w5.drewN m).drewN nq = W ∧ Keeps w5 W := ⟨_, rfl, below_drewN (below_drewN (Below.refl _ _))⟩
          obtain ⟨W, hW, hkW⟩ := hW
          rw [hW]
          clear hW hsd
          have hxW := hx5.below hkW
          have hxqW := hxq5.below hkW
          go_wp2_with (first
            | (go_at_call 13; refine (hm _).mono ?_; rintro e w6 ⟨rfl, rfl⟩)
            | (go_at_call 14; refine (hcp b cc hqcc _ hxqW).mono ?_; rintro e w7 ⟨b7, c7, rfl, hyl7, hc7, hy7, hb7⟩; clear hyl7)
            | (go_at_call 11; refine (hb2' _ _ _ (hxW.below hb7) hy7).mono ?_; rintro e w8 ⟨rfl, m8, rfl⟩)
            | (go_at_call 9; refine (awake_c _).mono ?_; rintro e w9 ⟨rfl, hb9⟩))
          go_ret
          exact ⟨rfl, Keeps.next (below_drewN ((hk5.next hkW).next hb7)) hb9⟩
end Go.Proofs.Ytodopdfjjgpdeaa
