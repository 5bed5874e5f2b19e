/- The law Greatest. -/
import Derived.Test.YtngonghgkeobhaaGf
import Derived.BigQuiet
namespace Go.Proofs.Ytngonghgkeobhaa
open Go.RowKit Go.Shelf
set_option linter.unusedVariables false
set_option linter.unusedSimpArgs false

theorem Count_T (d : Nat) (hd : 1 ≤ d) (v : Value) (l : List Ed) (hg : graphB d l = true) (w : World) (hv : RdE w v l) :
    Calls Try.prog 22 #[.int .i64 d, v] w fun e w' => e = .returned (.tuple #[.int .i64 (cntV (fun s => valL s l) (bestL (d - 1) l).2 (prp (d - 1))), .int .i64 0]) ∧ Keeps w w' := by
  obtain ⟨k, rfl⟩ : ∃ k, d = k + 1 := ⟨d - 1, by omega⟩
  have := Count_yes k v l (by exact_mod_cast hg) w hv
  exact_mod_cast this
theorem Values_T (d : Nat) (hd : 1 ≤ d) (v : Value) (l : List Ed) (hg : graphB d l = true) (R : List Int) (hR : R.Pairwise (· < ·)) (hm : ∀ x, x ∈ R ↔ x ∈ (prp (d - 1)).map fun s => valL s l) (w : World) (hv : RdE w v l) :
    Calls Try.prog 23 #[.int .i64 d, v] w fun e w' => ∃ u, e = .returned (.tuple #[u, .int .i64 0]) ∧ w'.ownsRow w.heap.size 3 1 u R.length (R.map (Value.int .i64)) ∧ Keeps w w' := by
  obtain ⟨k, rfl⟩ : ∃ k, d = k + 1 := ⟨d - 1, by omega⟩
  have := Values_yes k v l (by exact_mod_cast hg) w hv
  rw [show (k : Int) + 1 = ((k + 1 : Nat) : Int) by omega] at this
  refine this.mono ?_
  rintro e w' ⟨u, rfl, hO, hb⟩
  exact ⟨u, rfl, hO R hR hm, hb⟩
theorem cntV_in (f : Nat → Int) (z : Int) (xs : List Nat) (x : Nat) (hx : x ∈ xs) (hf : f x = z) : 1 ≤ cntV f z xs ∧ cntV f z xs ≤ xs.length := by
  unfold cntV
  exact ⟨List.length_pos_of_mem (List.mem_filter.2 ⟨hx, by simpa using hf⟩), List.length_filter_le _ _⟩
/-- What the law looks at: the side at which the value is greatest against another side. -/
theorem greatest_text (v : Nat) (hv : v < 12) (l : List Ed) (hE : edgesOk l) (hbl : below (v + 1) l) (S : Nat) (h0 : hs S 0 = false) (hS : valL S l = (bestL v l).2) : Op.bytesLess (txt S (v + 1)) (txt (bestL v l).1 (v + 1)) = false := by
  obtain ⟨i, h1, h2, h3⟩ := best_first v hv l hE
  have e : txt S (v + 1) = txt (prN v S * 2 ^ (12 - (v + 1))) (v + 1) := txt_congr _ _ _ fun u hu => (prN_hs v S hv h0 u hu).symm
  have hval : valL (prN v S * 2 ^ (12 - (v + 1))) l = valL S l := valL_below _ S (v + 1) l hbl (prN_hs v S hv h0)
  have hle : i ≤ prN v S := by
    rcases Nat.lt_or_ge (prN v S) i with h | h
    · have := h3 _ h; omega
    · exact h
  rw [e, h2]
  have := prN_lt v S
  exact (txt_order (v + 1) (by omega) _ i (by rw [Nat.pow_succ]; omega) hle).1
theorem toList_TX (S d : Nat) : (TX S d).toList = txt S d := by
  have := ByteArray.toList_eq (TX S d)
  rw [this, TX_list]
set_option maxHeartbeats 8000000 in
set_option maxRecDepth 100000 in
theorem law_greatest (n : Int) (v1 : Value) (l0 : List Int) (x : Int) (w : World) (hn : (Lit.int .i64 n).wf = true) (hv : RdI w v1 l0) (hf : fits l0) (hcap : Cap v1) (hx : (Lit.int .i64 x).wf = true) :
    Calls Try.prog 6 #[.int .i64 n, v1, .int .i64 x] w fun e w' => e = .returned (.bool true) ∧ Keeps w w' := by
  have hta := tame_c n v1 l0 40 (-50) (by omega) (by omega) (by omega) hn w hv hf
  have hd := tmD_in n
  generalize tmD n = d at *
  have hsi := fun X => side_c x d hd.1 hd.2 hx X
  generalize sdN x d = S at *
  clear hn hx hv hf hcap
  go_enter Try.func6, Try.ntmps6
  go_upto_region 2 with (go_at_call 9; refine hta.mono ?_; rintro e w1 ⟨l, A, c, rfl, hv1, hc1, hg, hlm, hlw, hb1⟩)
  have hE := graphB_edges hg
  have hT := edgesT_of hg
  have hbl := graphB_below hg d rfl
  have hd1 : d - 1 + 1 = d := by omega
  have hbl' : below (d - 1 + 1) l := by rw [hd1]; exact hbl
  obtain ⟨R, hR, hRm⟩ := sorted_of ((prp (d - 1)).map fun s => valL s l)
  have hbe := fun X hX => Best_T d hd.1 (.slice A l.length c) l hg X hX
  have hva := fun X hX => Value_T d (.slice A l.length c) l S hg X hX
  have hco := fun X hX => Count_T d hd.1 (.slice A l.length c) l hg X hX
  have hvs := fun X hX => Values_T d hd.1 (.slice A l.length c) l hg R hR hRm X hX
  obtain ⟨at1, i0, hi0, hBi⟩ := best_att (d - 1) (by omega) l hE
  have hge := best_ge (d - 1) (by omega) l hbl' hT
  have hrs := fun X => rside_T (bestL (d - 1) l).1 d hd.2 X
  have hrv := fun X hX => rvalue_T (.slice A l.length c) l (bestL (d - 1) l).1 d hd.2 hE hbl X hX
  rw [← at1] at hrv
  have hgt := greatest_text (d - 1) (by omega) l hE hbl' S
  rw [hd1] at hgt
  have hB0 : hs (bestL (d - 1) l).1 0 = false := by
    rw [hBi, hs_mul _ _ 0 (by omega) (by decide)]
    exact Nat.testBit_lt_two_pow (Nat.lt_of_lt_of_le hi0 (Nat.pow_le_pow_right (by decide) (by omega)))
  have hch := fun (h' : 0 < (TX (bestL (d - 1) l).1 d).size) => show (((TX (bestL (d - 1) l).1 d)[0]'h').toNat : Int) = 48 by rw [TX_get _ d 0 (by omega) h']; unfold chT; rw [hB0]; rfl
  have hchS := fun (h' : 0 < (TX S d).size) => show (((TX S d)[0]'h').toNat : Int) = if hs S 0 = true then 49 else 48 by rw [TX_get _ d 0 (by omega) h']; exact chT_one S 0
  have hsB := TX_size (bestL (d - 1) l).1 d
  have hsS := TX_size S d
  have hplen : (prp (d - 1)).length = 2 ^ (d - 1) := sds_length _ _
  have hcn := cntV_in (fun s => valL s l) (bestL (d - 1) l).2 (prp (d - 1)) (bestL (d - 1) l).1 (by rw [hBi]; exact List.mem_of_getElem? (prp_sd (d - 1) i0 hi0 (by omega))) at1.symm
  rw [hplen] at hcn
  have hVR : (bestL (d - 1) l).2 ∈ R := (hRm _).2 (by rw [at1]; exact val_mem (d - 1) (by omega) l hbl' hT _)
  have hWR : valL S l ∈ R := (hRm _).2 (val_mem (d - 1) (by omega) l hbl' hT S)
  have hmax : ∀ y ∈ R, y ≤ (bestL (d - 1) l).2 := fun y hy => by
    obtain ⟨s, _, rfl⟩ := List.mem_map.1 ((hRm y).1 hy)
    exact hge s
  have hlast := last_max R _ hR hVR hmax
  have hRlen := prp_len_le (d - 1) (by omega) l R hR hRm
  have hWV := hge S
  have hR0 := List.length_pos_of_mem hVR
  have hless : hs S 0 = false → valL S l = (bestL (d - 1) l).2 → Op.bytesLess (TX S d).toList (TX (bestL (d - 1) l).1 d).toList = false := fun h1 h2 => by rw [toList_TX, toList_TX]; exact hgt h1 h2
  have iV := val_in S l hE
  have Hless := Lib.hid hless
  have HhS := Lib.hid hchS
  generalize hs S 0 = s0 at *
  generalize valL S l = W at *
  generalize (bestL (d - 1) l).2 = V at *
  generalize cntV (fun s => valL s l) V (prp (d - 1)) = K at *
  generalize TX (bestL (d - 1) l).1 d = TB at *
  generalize TX S d = TS at *
  have hp2 : (2 : Nat) ^ (d - 1) ≤ 2048 := Nat.le_trans (Nat.pow_le_pow_right (by decide) (show d - 1 ≤ 11 by omega)) (by decide)
  have HR := Lib.hid hR
  have HWR := Lib.hid hWR
  have Hlast := Lib.hid hlast
  clear hless hchS hgt hB0 hBi hi0 at1 hge hplen hVR hWR hmax hRm hT hE hbl hbl' hg hlw hR hlast hta
  go_upto_region 6 with (first
    | (go_at_call 11; refine (hsi _).mono ?_; rintro e w' ⟨rfl, hb'⟩; have hv1 := hv1.below hb'; have hb1 := Keeps.next hb1 hb')
    | (go_at_call 13; refine (hbe _ hv1).mono ?_; rintro e w' ⟨rfl, hb'⟩; have hv1 := hv1.below hb'; have hb1 := Keeps.next hb1 hb')
    | (go_at_call 12; refine (hva _ hv1).mono ?_; rintro e w' ⟨rfl, hb'⟩; have hv1 := hv1.below hb'; have hb1 := Keeps.next hb1 hb')
    | (go_at_call 22; refine (hco _ hv1).mono ?_; rintro e w' ⟨rfl, hb'⟩; have hv1 := hv1.below hb'; have hb1 := Keeps.next hb1 hb')
    | (go_at_call 23; refine (hvs _ hv1).mono ?_; rintro e w' ⟨u, rfl, hown, hb'⟩; have hv1 := hv1.below hb'; have hb1 := Keeps.next hb1 hb'))
  clear hbe hva hco hvs
  obtain ⟨g, cap, rfl, _, _, hcp, _, hcu⟩ := own_form hown hR0
  have hcu : ∀ j, j < R.length → w'.cell? ⟨g, j, none⟩ = some (.int .i64 (nth R j)) := fun j hj => hcu j _ (by simp [nth, hj])
  have Hcu := Lib.hid hcu
  obtain ⟨N, hN⟩ : ∃ N, R.length = N := ⟨_, rfl⟩
  rw [hN] at hRlen hR0 Hcu Hlast hcp
  have HN := Lib.hid hN
  rw [hN]
  clear hcu hN hown
  obtain ⟨P, hP⟩ : ∃ P : Nat, 2 ^ (d - 1) = P := ⟨_, rfl⟩
  rw [hP] at hcn hp2
  have hw2 : wrap64 ((2 : Int) ^ (d - 1)) = (P : Int) := by
    rw [show ((2 : Int) ^ (d - 1)) = (P : Int) by rw [← hP]; push_cast; rfl]
    simp only [wrap64]; omega
  obtain ⟨hk1, hk2⟩ := hcn
  clear hP
  have hK1 : decide ((K : Int) < 1) = false := decide_eq_false (Int.not_lt.2 (by exact_mod_cast hk1))
  have hKP : decide ((P : Int) < (K : Int)) = false := decide_eq_false (Int.not_lt.2 (by exact_mod_cast hk2))
  have hKP2 : decide (P < K) = false := decide_eq_false (Nat.not_lt.2 hk2)
  have hdI : (1 : Int) ≤ (d : Int) := by exact_mod_cast hd.1
  have hNI : decide ((N : Int) < 1) = false := decide_eq_false (Int.not_lt.2 (by exact_mod_cast hR0))
  have hWVI : decide (V < W) = false := decide_eq_false (Int.not_lt.2 hWV)
  have Hd := Lib.hid hd
  have HRl := Lib.hid hRlen
  have HWV := Lib.hid hWV
  clear hcp hRlen hp2 hk1 hk2 iV hd1 hlm hc1
  go_upto_region 7 with (first
    | (go_at_call 18; refine (hrs _).mono ?_; rintro e w5 ⟨rfl, m3, rfl⟩)
    | (go_at_call 24; refine (hrv _ (hv1.below (below_drewN (Below.refl _ _)))).mono ?_; rintro e w6 ⟨rfl, m4, rfl⟩))
  have hb5 : Keeps w (w'.drewN (m3 + m4)) := below_drewN hb1
  have hcu5 : ∀ j, j < N → (w'.drewN (m3 + m4)).cell? ⟨g, j, none⟩ = some (.int .i64 (nth R j)) := fun j hj => cell_keep (Hcu.out j hj) (below_drewN (Below.refl _ _))
  have Hc5 := Lib.hid hcu5
  generalize w'.drewN (m3 + m4) = w5 at *
  have Hb5 := Lib.hid hb5
  clear hb1 hv1 hrs hrv hcu5 hb5 hK1 hKP hKP2 hNI hWVI hw2 hWV
  go_loopw [17, 18] (fun f i wr => ∃ q : Nat, q ≤ N ∧ i = .int .i64 q ∧ f = .bool (decide (W ∈ R.take q)) ∧ Keeps w5 wr) (fun _ i _ => N - (intOf i).toNat)
  case atStart => exact ⟨0, Nat.zero_le _, rfl, by simp, Below.refl _ _⟩
  case round =>
    obtain ⟨q, hq, rfl, rfl, hb6⟩ := hrel
    by_cases hqN : q < N
    · have hc := cell_keep (Hc5.out q hqN) hb6
      have Hst := Lib.hid (show decide (W ∈ R.take (q + 1)) = (decide (W ∈ R.take q) || decide (nth R q = W)) by
        rw [take_nth R q (by rw [HN.out]; exact hqN), ← Bool.decide_or, decide_eq_decide, List.mem_append, List.mem_singleton]
        exact ⟨fun h => h.imp id Eq.symm, fun h => h.imp id Eq.symm⟩)
      have Hsort : Hid (∀ p, q = p + 1 → nth R p < nth R q) := Lib.hid fun p hp => by
        have h1 : q < R.length := by rw [HN.out]; exact hqN
        have := List.pairwise_iff_getElem.1 HR.out p q (by omega) h1 (by omega)
        simpa [nth, List.getElem?_eq_getElem h1, List.getElem?_eq_getElem (show p < R.length by omega)] using this
      have hqI : (q : Int) < (N : Int) := by exact_mod_cast hqN
      have hq48 : q ≤ 2048 := by have := HRl.out; omega
      obtain ⟨D, hD⟩ : ∃ D, nth R q = D := ⟨_, rfl⟩
      rw [hD] at hc
      simp only [hD] at Hst Hsort
      obtain ⟨bF, hbF⟩ : ∃ b, decide (W ∈ R.take q) = b := ⟨_, rfl⟩
      rw [hbF] at Hst ⊢
      clear hD hbF
      obtain ⟨bE, hbE⟩ : ∃ b, decide (D = W) = b := ⟨_, rfl⟩
      have hbE2 : (D == W) = bE := by rw [← hbE]; by_cases h : D = W <;> simp [h]
      rw [hbE] at Hst
      cases q with
      | zero =>
        cases bF
        all_goals
          cases bE
          all_goals
            go_wp2_with fail
            go_quiet (fail)
            go_wp2_with fail
            go_roundw
            case rel => exact ⟨1, by omega, rfl, by rw [Hst.out]; rfl, below_drewN hb6⟩
            case measure => simp [intOf]; omega
      | succ p =>
        have hc0 := cell_keep (Hc5.out p (by omega)) hb6
        have hlt := Hsort.out p rfl
        obtain ⟨D0, hD0⟩ : ∃ D, nth R p = D := ⟨_, rfl⟩
        rw [hD0] at hc0 hlt
        have hge : decide (D ≤ D0) = false := decide_eq_false (by omega)
        have hpI : (p : Int) < (N : Int) := by omega
        clear hD0 hlt
        cases bF
        all_goals
          cases bE
          all_goals
            go_wp2_with fail
            go_quiet (fail)
            go_wp2_with fail
            go_roundw
            case rel => exact ⟨p + 1 + 1, by omega, by go_num, by rw [Hst.out]; rfl, below_drewN hb6⟩
            case measure => simp [intOf]; omega
    · obtain rfl : q = N := by omega
      rw [show decide (W ∈ R.take q) = true from decide_eq_true (by rw [List.take_of_length_le (by rw [HN.out]; omega)]; exact HWR.out)]
      obtain ⟨M, rfl⟩ : ∃ M, q = M + 1 := ⟨q - 1, by omega⟩
      have hc := cell_keep (Hc5.out M (by omega)) hb6
      have hl := Hlast.out
      rw [Nat.add_sub_cancel] at hl
      rw [hl] at hc
      have hMI : (M : Int) < ((M + 1 : Nat) : Int) := by omega
      have hb7 := Hb5.out.next hb6
      have hM48 : M + 1 ≤ 2048 := HRl.out
      have hlc : W < V ∨ (W = V ∧ s0 = true) ∨ (W = V ∧ s0 = false) := by
        have := HWV.out
        rcases Int.lt_or_eq_of_le this with h | h
        · exact .inl h
        · cases s0
          · exact .inr (.inr ⟨h, rfl⟩)
          · exact .inr (.inl ⟨h, rfl⟩)
      clear hl
      rcases hlc with h | ⟨rfl, rfl⟩ | ⟨rfl, rfl⟩
      · have hd1 : decide (W < V) = true := decide_eq_true h
        clear h
        go_wp2_with (go_at_call 10; refine (awake_c _).mono ?_; rintro e w10 ⟨rfl, hb12⟩)
        go_ret
        exact ⟨rfl, hb7.next hb12⟩
      · have hch0 := HhS.out
        simp only [if_true] at hch0
        go_wp2_with (first
          | (go_at_call 11; refine (hsi _).mono ?_; rintro e w8 ⟨rfl, hb8⟩)
          | (go_at_call 10; refine (awake_c _).mono ?_; rintro e w10 ⟨rfl, hb12⟩))
        go_ret
        exact ⟨rfl, (hb7.next hb8).next hb12⟩
      · have hch0 := HhS.out
        simp only [Bool.false_eq_true, if_false] at hch0
        have hbl := Hless.out rfl rfl
        go_wp2_with (first
          | (go_at_call 11; refine (hsi _).mono ?_; rintro e w8 ⟨rfl, hb8⟩; have hb7 := hb7.next hb8)
          | (go_at_call 10; refine (awake_c _).mono ?_; rintro e w10 ⟨rfl, hb12⟩))
        go_ret
        exact ⟨rfl, hb7.next hb12⟩
end Go.Proofs.Ytngonghgkeobhaa
