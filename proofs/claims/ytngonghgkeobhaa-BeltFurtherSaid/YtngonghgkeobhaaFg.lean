/- The law Further. -/
import Derived.Test.YtngonghgkeobhaaFc
import Derived.BigQuiet
namespace Go.Proofs.Ytngonghgkeobhaa
open Go.RowKit Go.Shelf
set_option linter.unusedVariables false
set_option linter.unusedSimpArgs false

theorem rdE_front {w : World} {A : Option Addr} {c : Nat} {l : List Ed} {x : Ed} (h : RdE w (.slice A (l ++ [x]).length c) (l ++ [x])) (c' : Nat) : RdE w (.slice A l.length c') l := by
  obtain ⟨A', c2, he, hm, hcs⟩ := h
  cases he
  refine ⟨A, c', rfl, by rw [List.length_append] at hm; omega, fun k y hy => hcs k y ?_⟩
  have := (List.getElem?_eq_some_iff.1 hy).1
  rw [List.getElem?_append_left this]; exact hy
set_option maxHeartbeats 8000000 in
set_option maxRecDepth 100000 in
theorem law_further (n : Int) (v1 : Value) (l0 : List Int) (x : Int) (w : World) (hn : (Lit.int .i64 n).wf = true) (hv : RdI w v1 l0) (hf : fits l0) (hcap : Cap v1) (hx : (Lit.int .i64 x).wf = true) :
    Calls Try.prog 3 #[.int .i64 n, v1, .int .i64 x] w fun e w' => e = .returned (.bool true) ∧ Keeps w w' := by
  have hta := tame_c n v1 l0 40 (-50) (by omega) (by omega) (by omega) hn w hv hf
  have hd := tmD_in n
  generalize tmD n = d at *
  have hsi := fun X => side_c x d hd.1 hd.2 hx X
  generalize sdN x d = S at *
  clear hn hx hv hf hcap
  go_enter Try.func3, Try.ntmps3
  go_upto_region 2 with (go_at_call 9; refine hta.mono ?_; rintro e w1 ⟨l, A, c, rfl, hv1, hc1, hg, hlm, hlw, hb1⟩)
  clear hta hlw
  rcases List.eq_nil_or_concat l with rfl | ⟨l', y, rfl⟩
  · go_wp2_with (go_at_call 10; refine (awake_c _).mono ?_; rintro e w10 ⟨rfl, hb12⟩)
    go_ret
    exact ⟨rfl, hb1.next hb12⟩
  rw [List.concat_eq_append] at *
  have hg2 := graphB_front _ l' y hg
  have hE := graphB_edges hg
  have hE2 := graphB_edges hg2
  have hbl := graphB_below hg d rfl
  have hln : (l' ++ [y]).length = l'.length + 1 := by simp
  have hya := hbl y (by simp)
  have hyw := hE.2 y (by simp)
  have hva := fun X hX => Value_T d (.slice A (l' ++ [y]).length c) (l' ++ [y]) S hg X hX
  have hvb := fun v X hX => Value_T d v l' S hg2 X hX
  have hbe := fun X hX => Best_T d hd.1 (.slice A (l' ++ [y]).length c) (l' ++ [y]) hg X hX
  have hbf := fun v X hX => Best_T d hd.1 v l' hg2 X hX
  have hbb := best_front (d - 1) (by omega) l' y (by rw [show ((d - 1 : Nat) : Int) + 1 = (d : Int) by omega]; exact hg)
  have a1 := (best_att (d - 1) (by omega) _ hE).1
  have i4 := val_in (bestL (d - 1) (l' ++ [y])).1 _ hE
  have a2 := (best_att (d - 1) (by omega) _ hE2).1
  have i5 := val_in (bestL (d - 1) l').1 _ hE2
  rw [← a1] at i4
  rw [← a2] at i5
  have i6 := val_in S _ hE2
  rw [valL_snoc] at hva
  have hfr := fun (X : World) (c' : Nat) (h : RdE X (.slice A (l' ++ [y]).length c) (l' ++ [y])) => rdE_front h c'
  obtain ⟨_, _, he, hmx, hcs⟩ := id hv1
  cases he
  obtain ⟨b, off, rfl, c1, c2, c3⟩ := hcs l'.length y (by simp)
  obtain ⟨ya, yb, yc⟩ := y
  simp only at hya hyw c1 c2 c3
  obtain ⟨a, rfl⟩ := Int.eq_ofNat_of_zero_le hya.1
  obtain ⟨e', rfl⟩ := Int.eq_ofNat_of_zero_le hya.2.2.1
  have had : a < d := by omega
  have hed : e' < d := by omega
  have hwg : wgt S ((a : Int), (e' : Int), yc) = if (hs S a != hs S e') = true then yc else 0 := by unfold wgt; simp
  rw [hwg] at hva
  have hch1 : ∀ h', (((TX S d)[a]'h').toNat : Int) = if hs S a = true then 49 else 48 := fun h' => by rw [TX_get S d a had h']; unfold chT; split <;> rfl
  have hch2 : ∀ h', (((TX S d)[e']'h').toNat : Int) = if hs S e' = true then 49 else 48 := fun h' => by rw [TX_get S d e' hed h']; unfold chT; split <;> rfl
  have hsz := TX_size S d
  obtain ⟨N, hN⟩ : ∃ N, l'.length = N := ⟨_, rfl⟩
  rw [hN] at c1 c2 c3 hln
  have HN := Lib.hid hN
  have Hfr := Lib.hid hfr
  have Hln := Lib.hid hln
  rw [hln] at hva hbe hv1 hc1 hlm ⊢
  generalize hBB : (bestL (d - 1) (l' ++ [((a : Int), (e' : Int), yc)])).2 = BB at *
  generalize hBF : (bestL (d - 1) l').2 = BF at *
  generalize hTB : TX (bestL (d - 1) (l' ++ [((a : Int), (e' : Int), yc)])).1 d = TB at *
  generalize hTF : TX (bestL (d - 1) l').1 d = TF at *
  generalize hVS : valL S l' = VS at *
  generalize hTS : TX S d = TS at *
  have hNI : ((N + 1 : Nat) : Int) - 1 = (N : Int) := by omega
  have e1 : At (w1.alloc (.cells #[.int .i64 a, .int .i64 e', .int .i64 yc] 28)) w1.heap.size 28 #[.int .i64 a, .int .i64 e', .int .i64 yc] := At.new _ _ _
  have k1 : Keeps w1 (w1.alloc (.cells #[.int .i64 a, .int .i64 e', .int .i64 yc] 28)) := Keeps.alloc (Below.refl _ _) _
  clear hBB hBF hTB hTF hVS hcs hE hE2 hbl hg hg2 hwg a1 a2 hln hfr hN hmx
  go_upto_region 6 with fail
  have hfr' : ∀ X, RdE X (.slice (some ⟨b, off, none⟩) (N + 1) c) (l' ++ [((a : Int), (e' : Int), yc)]) → RdE X (.slice (some ⟨b, off, none⟩) N c) l' := fun X h => by
    have := Hfr.out X c (by rw [Hln.out]; exact h)
    rw [HN.out] at this
    exact this
  have hv1 := hv1.below k1
  have hb1 := hb1.next k1
  generalize w1.alloc (.cells #[.int .i64 a, .int .i64 e', .int .i64 yc] 28) = w2 at *
  obtain ⟨g, hgg⟩ : ∃ g, w1.heap.size = g := ⟨_, rfl⟩
  rw [hgg] at e1 ⊢
  clear hgg k1 c1 c2 c3
  go_upto_region 14 with (first
    | (go_at_call 11; with_reducible refine (hsi _).mono ?_; rintro e w' ⟨rfl, hb'⟩; have hv1 := hv1.below hb'; have hb1 := Keeps.next hb1 hb'; have e1 := e1.later hb')
    | (go_at_call 12; with_reducible refine (hva _ hv1).mono ?_; rintro e w' ⟨rfl, hb'⟩; have hv1 := hv1.below hb'; have hb1 := Keeps.next hb1 hb'; have e1 := e1.later hb')
    | (go_at_call 12; with_reducible refine (hvb _ _ (hfr' _ hv1)).mono ?_; rintro e w' ⟨rfl, hb'⟩; have hv1 := hv1.below hb'; have hb1 := Keeps.next hb1 hb'; have e1 := e1.later hb')
    | (go_at_call 13; with_reducible refine (hbe _ hv1).mono ?_; rintro e w' ⟨rfl, hb'⟩; have hv1 := hv1.below hb'; have hb1 := Keeps.next hb1 hb'; have e1 := e1.later hb')
    | (go_at_call 13; with_reducible refine (hbf _ _ (hfr' _ hv1)).mono ?_; rintro e w' ⟨rfl, hb'⟩; have hv1 := hv1.below hb'; have hb1 := Keeps.next hb1 hb'; have e1 := e1.later hb'))
  obtain ⟨p1, p2, p3⟩ := cells_ev (x := ((a : Int), (e' : Int), yc)) e1
  clear hva hvb hbe hbf hsi hfr' hv1
  have haI : (a : Int) < (d : Int) := by omega
  have heI : (e' : Int) < (d : Int) := by omega
  have hq : (0 < yc ∧ BB - BF ≤ yc ∧ BF - BB ≤ 0) ∨ (yc = 0 ∧ BB = BF) ∨ (yc < 0 ∧ BB - BF ≤ 0 ∧ BF - BB ≤ -yc) := by omega
  clear hbb
  cases ha : hs S a <;> cases he : hs S e'
  all_goals
    rw [ha] at hch1
    rw [he] at hch2
    simp only [ha, he, if_true, if_false, bne_self_eq_false, Bool.false_eq_true, Bool.bne_true, Bool.bne_false, Bool.not_true, Bool.not_false, Bool.true_bne, Bool.false_bne] at hch1 hch2 ⊢
    clear ha he
    go_quiet (fail)
    have hb3 : Keeps w (w'.drewN nq) := below_drewN hb1
    have e2 : At (w'.drewN nq) g 28 (ev ((a : Int), (e' : Int), yc)) := At.later e1 (below_drewN (Below.refl _ _))
    obtain ⟨q1, q2, q3⟩ := cells_ev e2
    clear p1 p2 p3 e1
    rcases hq with ⟨h1, h2, h3⟩ | ⟨rfl, rfl⟩ | ⟨h1, h2, h3⟩
    all_goals
      go_wp2_with (go_at_call 10; refine (awake_c _).mono ?_; rintro e w10 ⟨rfl, hb12⟩)
      go_ret
      exact ⟨rfl, hb3.next hb12⟩
end Go.Proofs.Ytngonghgkeobhaa
