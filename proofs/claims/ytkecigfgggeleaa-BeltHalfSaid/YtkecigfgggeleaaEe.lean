/- The reference's Best; law Bests. -/
import Derived.Test.YtkecigfgggeleaaEd
import Derived.Test.YtkecigfgggeleaaDi
namespace Go.Proofs.Ytkecigfgggeleaa
open Go.RowKit Go.Shelf
set_option linter.unusedVariables false
set_option linter.unusedSimpArgs false

theorem prp_sd (v k : Nat) (hk : k < 2 ^ v) (hv : v < 12) : (prp v)[k]? = some (k * 2 ^ (12 - (v + 1))) := by
  unfold prp
  rw [sds_at _ _ _ hk]
  unfold bt
  rw [show 12 - (v + 1) = 11 - v by omega]
theorem valL_zero (l : List Ed) : valL 0 l = 0 := by
  have key : ∀ k, k ≤ l.length → valL 0 (l.take k) = 0 := by
    intro k
    induction k with
    | zero => intro _; rfl
    | succ k ih =>
      intro hk
      have hx : l[k]? = some l[k] := List.getElem?_eq_getElem (by omega)
      rw [take_at l k _ hx, valL_snoc, ih (by omega)]
      unfold wgt hs
      simp
  have := key l.length (Nat.le_refl _)
  rwa [List.take_length] at this
theorem rb_val (f : Nat → Int) (xs : List Nat) (h0 : xs[0]? = some 0) (hf0 : f 0 = 0) (B : Int) (hB : 0 ≤ B) (hf : ∀ x, -B ≤ f x ∧ f x ≤ B) (k : Nat) (hk : k ≤ xs.length) : -B ≤ (rb f xs k).2.1 ∧ (rb f xs k).2.1 ≤ B ∧ (rb f xs k).2.2 ≤ k := by
  induction k with
  | zero => exact ⟨by show -B ≤ (0 : Int); omega, by show (0 : Int) ≤ B; omega, Nat.le_refl _⟩
  | succ k ih =>
    have ih := ih (by omega)
    have h := hf xs[k]
    rw [rb_step f xs h0 hf0 k _ (List.getElem?_eq_getElem (by omega))]
    split
    · exact ⟨h.1, h.2, by simp only; omega⟩
    · split
      · exact ⟨ih.1, ih.2.1, by simp only; omega⟩
      · exact ⟨ih.1, ih.2.1, by omega⟩
set_option maxHeartbeats 4000000 in
set_option maxRecDepth 100000 in
theorem rbest_c (v : Nat) (V : Value) (l : List Ed) (hv12 : v < 12) (hE : edgesOk l) (hbl : below (v + 1) l) (w : World) (hV : RdE w V l) :
    Calls Try.prog 27 #[.int .i64 ((v : Int) + 1), V] w fun e w' => e = .returned (.tuple #[.string (TX (bestL v l).1 (v + 1)), .int .i64 (bestL v l).2, .int .i64 (cntV (fun s => valL s l) (bestL v l).2 (prp v))]) ∧ Keeps w w' := by
  have hall := fun X => all_c (v + 1) (by omega) X
  rw [show ((v + 1 : Nat) : Int) = (v : Int) + 1 by omega] at hall
  have hva := fun S X (hX : Keeps w X) => rvalue_T V l S (v + 1) (by omega) hE hbl X (hV.below hX)
  have hlen := sdl_length (v + 1)
  have hp := pow12 (v + 1) (by omega)
  have hp1 : 1 ≤ 2 ^ v := Nat.one_le_two_pow
  have hp2 : 2 ^ (v + 1) = 2 ^ v * 2 := Nat.pow_succ 2 v
  have hq : (((sdl (v + 1)).length : Int)).tdiv 2 = ((2 ^ v : Nat) : Int) := by rw [hlen, hp2, Int.tdiv_eq_ediv_of_nonneg (by omega)]; omega
  obtain ⟨f, hf⟩ : ∃ f, f = fun s => valL s l := ⟨_, rfl⟩
  have h0 : (prp v)[0]? = some 0 := by rw [prp_sd v 0 (by omega) hv12, Nat.zero_mul]
  have hf0 : f 0 = 0 := by rw [hf]; exact valL_zero l
  have hfv : ∀ s, f s = valL s l := fun s => by rw [hf]
  have hplen : (prp v).length = 2 ^ v := sds_length _ _
  have Hend := Lib.hid (show rb f (prp v) (2 ^ v) = ((bestL v l).1, (bestL v l).2, cntV (fun s => valL s l) (bestL v l).2 (prp v)) by
    unfold rb
    rw [if_neg (by omega), ← hplen, List.take_length, hf]; rfl)
  have Hst := Lib.hid (fun k (hk : k < 2 ^ v) => rb_step f (prp v) h0 hf0 k _ (prp_sd v k hk hv12))
  have Hrv := Lib.hid (fun k (hk : k ≤ 2 ^ v) => rb_val f (prp v) h0 hf0 5000 (by decide) (fun x => by rw [hfv]; exact val_in x l hE) k (by rw [hplen]; exact hk))
  have Hvb := Lib.hid (fun x => val_in x l hE)
  have Hfv := Lib.hid hfv
  have Hat := Lib.hid (fun k (h : k < 2 ^ (v + 1)) => sdl_at (v + 1) k h)
  clear hf h0 hf0 hfv hplen hV
  have HR0 : Hid (rb f (prp v) 0 = (0, 0, 0)) := Lib.hid rfl
  generalize rb f (prp v) = R at *
  obtain ⟨SD, hSD⟩ : ∃ SD, sdl (v + 1) = SD := ⟨_, rfl⟩
  rw [hSD] at hall hlen hq Hat
  have Hlen := Lib.hid hlen
  obtain ⟨M, hM⟩ : ∃ M, 2 ^ v = M := ⟨_, rfl⟩
  rw [hM] at hq hp1 hp2 Hend Hst Hrv
  rw [hp2] at hlen hp Hat Hlen
  generalize (bestL v l).1 = bS at *
  generalize (bestL v l).2 = bV at *
  generalize cntV (fun s => valL s l) bV (prp v) = bC at *
  clear hSD hM hp2 hlen
  go_enter Try.func27, Try.ntmps27
  go_upto_region 2 with (go_at_call 45; refine (hall _).mono ?_; rintro e w1 ⟨u, rfl, hr1, hb1⟩)
  obtain ⟨A, c, rfl, hm, hcs⟩ := id hr1
  have h0 := hcs 0 (by rw [Hlen.out]; omega)
  obtain ⟨b, off, u8, rfl, hc0, s0, hs0, rfl⟩ := h0
  rw [Hat.out 0 (by omega), Option.some.injEq, Nat.zero_mul] at hs0
  subst hs0
  have hl0 : (0 : Int) < (SD.length : Int) := by rw [Hlen.out]; omega
  have Hcs := Lib.hid hcs
  clear hcs hm
  rw [Hlen.out] at *
  rw [Nat.add_zero] at hc0
  go_wp2_with fail
  have HhE := Lib.hid hE
  have Hhb := Lib.hid hbl
  clear hE hbl hc0
  go_loopw [8, 9, 10, 11] (fun s z m i wr => ∃ k : Nat, k ≤ M ∧ i = .int .i64 k ∧ s = .string (TX (R k).1 (v + 1)) ∧ z = .int .i64 (R k).2.1 ∧ m = .int .i64 (R k).2.2 ∧ Keeps w1 wr) (fun _ _ _ i _ => M - (intOf i).toNat)
  case atStart => exact ⟨0, Nat.zero_le _, rfl, by rw [HR0.out], by rw [HR0.out], by rw [HR0.out]; rfl, Below.refl _ _⟩
  case round =>
    obtain ⟨k, hk, rfl, rfl, rfl, rfl, hb4⟩ := hrel
    by_cases hkM : k < M
    · obtain ⟨b', off', u9, he, hcell, s1, hs1, rfl⟩ := Hcs.out k (by omega)
      cases he
      rw [Hat.out k (by omega), Option.some.injEq] at hs1
      subst hs1
      have hc4 := cell_keep hcell hb4
      have Hs := Lib.hid (Hst.out k hkM)
      have Hr := Lib.hid (Hrv.out k (by omega))
      have Hr1 := Lib.hid (Hrv.out (k + 1) (by omega))
      generalize k * 2 ^ (12 - (v + 1)) = X at *
      rw [Hfv.out X] at Hs
      have hvx := fun Z (hZ : Keeps w Z) => hva X Z hZ
      have Hvx := Lib.hid (Hvb.out X)
      obtain ⟨VX, hVX⟩ : ∃ VX, valL X l = VX := ⟨_, rfl⟩
      rw [hVX] at Hs Hvx
      simp only [hVX] at hvx
      clear hVX hva hcell
      have hkI : (k : Int) < (M : Int) := by omega
      have hkI2 : (k : Int) < ((M * 2 : Nat) : Int) := by omega
      obtain ⟨⟨bk, zk, mk⟩, hRk⟩ : ∃ q, R k = q := ⟨_, rfl⟩
      rw [hRk] at Hs Hr ⊢
      simp only at Hs Hr ⊢
      have hr2 := Hr.out.2.2
      by_cases h1 : zk < VX
      · have hRn : Hid (R (k + 1) = (X, VX, 1)) := by have := Hs.out; rw [if_pos h1] at this; exact Lib.hid this
        clear Hs Hr Hr1 hRk
        have h1' : (VX == VX) = true := by simp
        go_wp2_with (go_at_call 28; refine (hvx _ (hb1.next hb4)).mono ?_; rintro e w5 ⟨rfl, m5, rfl⟩)
        go_roundw
        case rel => exact ⟨k + 1, by omega, by go_num, by rw [hRn.out], by rw [hRn.out], by rw [hRn.out]; rfl, below_drewN hb4⟩
        case measure => simp [intOf]; omega
      · by_cases h2 : VX = zk
        · subst h2
          have hRn : Hid (R (k + 1) = (bk, VX, mk + 1)) := by have := Hs.out; rw [if_neg h1, if_pos rfl] at this; exact Lib.hid this
          clear Hs Hr Hr1 hRk
          go_wp2_with (go_at_call 28; refine (hvx _ (hb1.next hb4)).mono ?_; rintro e w5 ⟨rfl, m5, rfl⟩)
          go_roundw
          case rel => exact ⟨k + 1, by omega, by go_num, by rw [hRn.out], by rw [hRn.out], by rw [hRn.out]; go_num, below_drewN hb4⟩
          case measure => simp [intOf]; omega
        · have hRn : Hid (R (k + 1) = (bk, zk, mk)) := by have := Hs.out; rw [if_neg h1, if_neg h2] at this; exact Lib.hid this
          clear Hs Hr Hr1 hRk
          go_wp2_with (go_at_call 28; refine (hvx _ (hb1.next hb4)).mono ?_; rintro e w5 ⟨rfl, m5, rfl⟩)
          go_roundw
          case rel => exact ⟨k + 1, by omega, by go_num, by rw [hRn.out], by rw [hRn.out], by rw [hRn.out], below_drewN hb4⟩
          case measure => simp [intOf]; omega
    · obtain rfl : k = M := by omega
      rw [Hend.out]
      go_wp2_with fail
      go_ret3
      exact ⟨rfl, hb1.next hb4⟩
set_option maxHeartbeats 4000000 in
set_option maxRecDepth 100000 in
theorem law_bests (n : Int) (v1 : Value) (l0 : List Ed) (w : World) (hn : (Lit.int .i64 n).wf = true) (hv : RdE w v1 l0) (hcap : Cap v1) :
    Calls Try.prog 6 #[.int .i64 n, v1] w fun e w' => e = .returned (.bool true) ∧ Keeps w w' := by
  have hed := edges_c v1 l0 w hv hcap
  have hl41 : (l0.take 41).length ≤ 41 := by rw [List.length_take]; omega
  generalize l0.take 41 = l at *
  have hgr := fun v X hX => rgraph_c n v l hl41 X hX
  cases hg : graphB n l with
  | true =>
    obtain ⟨n1, n12⟩ := graphB_n hg
    obtain ⟨d, hd⟩ := Int.eq_ofNat_of_zero_le (show 0 ≤ n - 1 by omega)
    obtain rfl : n = (d : Int) + 1 := by omega
    have hE := graphB_edges hg
    have hbl := graphB_below hg (d + 1) (by omega)
    have hbe := fun v X hX => Best_yes d v l hg X hX
    have hco := fun v X hX => Count_yes d v l hg X hX
    have hrb := fun v X hX => rbest_c d v l (by omega) hE hbl X hX
    rw [hg] at hgr
    change ∀ v X, RdE X v l → Calls _ _ _ X (fun e w' => e = .returned (.tuple #[.string (TX (bestL d l).1 (d + 1)), .int .i64 (bestL d l).2, .int .i64 0]) ∧ Keeps X w') at hbe
    generalize cntV (fun s => valL s l) (bestL d l).2 (prp d) = K at *
    generalize (bestL d l).2 = Z at *
    generalize TX (bestL d l).1 (d + 1) = T at *
    clear hg hE hbl hcap hn hv hl41
    go_enter Try.func6, Try.ntmps6
    go_wp2_with (first
      | (go_at_call 9; refine hed.mono ?_; rintro e w1 ⟨A, c, rfl, hv1, hb1⟩)
      | (go_at_call 25; refine (hbe _ _ hv1).mono ?_; rintro e w3 ⟨rfl, hb3⟩; have hv3 := hv1.below hb3; have hk3 := hb1.next hb3)
      | (go_at_call 26; refine (hco _ _ hv3).mono ?_; rintro e w4 ⟨rfl, hb4⟩; have hv4 := hv3.below hb4; have hk4 := hk3.next hb4)
      | (go_at_call 12; refine (hgr _ _ hv4).mono ?_; rintro e w5 ⟨rfl, m5, rfl⟩)
      | (go_at_call 27; refine (hrb _ _ (hv4.below (below_drewN (Below.refl _ _)))).mono ?_; rintro e w7 ⟨rfl, hb7⟩; have hk7 := Keeps.next (below_drewN hk4) hb7)
      | (go_at_call 14; refine (awake_c _).mono ?_; rintro e w10 ⟨rfl, hb10⟩; have hk10 := hk7.next hb10))
    go_ret
    exact ⟨rfl, hk10⟩
  | false =>
    have hbe := fun v X hX => Best_no n v l hg X hX
    have hco := fun v X hX => Count_no n v l hg X hX
    rw [hg] at hgr
    clear hg
    go_enter Try.func6, Try.ntmps6
    go_wp2_with (first
      | (go_at_call 9; refine hed.mono ?_; rintro e w1 ⟨A, c, rfl, hv1, hb1⟩)
      | (go_at_call 25; refine (hbe _ _ hv1).mono ?_; rintro e w3 ⟨rfl, hb3⟩; have hv3 := hv1.below hb3; have hk3 := hb1.next hb3)
      | (go_at_call 26; refine (hco _ _ hv3).mono ?_; rintro e w4 ⟨rfl, hb4⟩; have hv4 := hv3.below hb4; have hk4 := hk3.next hb4)
      | (go_at_call 12; refine (hgr _ _ hv4).mono ?_; rintro e w5 ⟨rfl, m5, rfl⟩)
      | (go_at_call 14; refine (awake_c _).mono ?_; rintro e w10 ⟨rfl, hb10⟩; have hk10 := Keeps.next (below_drewN hk4) hb10))
    go_ret
    exact ⟨rfl, hk10⟩
end Go.Proofs.Ytkecigfgggeleaa
