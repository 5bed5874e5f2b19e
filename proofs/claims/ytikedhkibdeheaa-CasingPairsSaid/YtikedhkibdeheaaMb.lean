/- The law on one generator. -/
import Derived.Test.YtikedhkibdeheaaMa
import Derived.Test.YtikedhkibdeheaaNb
import Derived.Test.YtikedhkibdeheaaJa
import Derived.Test.YtikedhkibdeheaaHd
namespace Go.Proofs.Ytikedhkibdeheaa
open Go.RowKit
set_option linter.unusedVariables false

theorem exB_one (l : List UInt8) (h : l.all (okL 1) = true) : exB l = 0 := by
  induction l with
  | nil => rfl
  | cons c l ih =>
    rw [List.all_cons, Bool.and_eq_true] at h
    have hc : c = 97 ∨ c = 65 := by have := h.1; simp [okL] at this; exact this
    have he : exB (c :: l) = eb c + exB l := by simp [exB]
    rw [he, ih h.2]
    rcases hc with rfl | rfl <;> rfl
theorem gE_one (a : Int) (r : ByteArray) (h : r.data.toList.all (okL 1) = true) : gE a r = Int.gcd a (exA r.data.toList) := by
  unfold gE
  rw [exB_one _ h, Int.gcd_zero_right, Int.natAbs_natCast]
theorem group_one (rs : List ByteArray) (h : groupB 1 rs = true) : ∀ r ∈ rs, r.data.toList.all (okL 1) = true := by
  intro r hr
  simp only [groupB, Bool.and_eq_true, decide_eq_true_eq] at h
  have := List.all_eq_true.1 h.2.2 r hr
  simp only [wordB, Bool.and_eq_true, decide_eq_true_eq] at this
  exact this.2
theorem divB_snoc (d : Int) (rs : List ByteArray) (k : Nat) (r : ByteArray) (h : rs[k]? = some r) : divB d (rs.take (k + 1)) = (divB d (rs.take k) && decide (d ∣ exA r.data.toList)) := by
  obtain ⟨hk, rfl⟩ := List.getElem?_eq_some_iff.1 h
  unfold divB; rw [List.take_succ_eq_append_getElem hk, List.all_append]; simp
theorem tmod_dvd (x d : Int) : (x.tmod d == 0) = decide (d ∣ x) := by
  rw [Bool.eq_iff_iff, beq_iff_eq, decide_eq_true_iff]
  exact Int.dvd_iff_tmod_eq_zero.symm
theorem fac_one (rs : List ByteArray) (h : groupB 1 rs = true) : (dE rs = 0 ∧ facL 1 rs = [] ∧ facN 1 rs = 1) ∨ (dE rs = 1 ∧ facL 1 rs = [] ∧ facN 1 rs = 0) ∨ (1 < dE rs ∧ facL 1 rs = [dE rs] ∧ facN 1 rs = 0) := by
  have hE := (dE_le rs (small_of _ _ h) rs.length (Nat.le_refl _)).1
  rw [List.take_length] at hE
  have e1 : facL 1 rs = bigs [dE rs] := by simp [facL, h, allF]
  have e2 : facN 1 rs = frees [dE rs] := by simp [facN, h, allF]
  rw [e1, e2]
  by_cases h0 : dE rs = 0
  · exact .inl ⟨h0, by rw [h0]; rfl, by rw [h0]; rfl⟩
  · by_cases h1 : dE rs = 1
    · exact .inr (.inl ⟨h1, by rw [h1]; rfl, by rw [h1]; rfl⟩)
    · exact .inr (.inr ⟨by omega, by simp [bigs]; omega, by simp [frees, h0]⟩)

theorem ix0 (x y : Int) (w : World) : (Instr.index 38 (.agg #[.int .i64 x, .int .i64 y]) (.int .i64 0)).run Try.prog w = .ok (.int .i64 x) w := by kernel_rfl
set_option maxHeartbeats 4000000 in
set_option maxRecDepth 100000 in
theorem law_cyclic (v : Value) (l : List ByteArray) (d : Int) (w : World) (hv : RdS w v l) (hz : szOk l) (_ : Cap v) (hd : (Lit.int .i64 d).wf = true) :
    Calls Try.prog 4 #[v, .int .i64 d] w fun e w' => e = .returned (.bool true) ∧ Keeps w w' := by
  have hru : Calls Try.prog 14 #[.int .i64 0, v] w fun e w' => ∃ u, e = .returned (.agg #[.int .i64 1, u]) ∧ RdS w' u (rulesL 1 l) ∧ Cap u ∧ Keeps w w' := rules_c 0 (by decide) 1 (by decide) v l hz w hv
  have hG : groupB 1 (rulesL 1 l) = true := rulesL_ok 1 (.inl rfl) l
  have hRz := rulesL_sz 1 l
  have hRl : (rulesL 1 l).length ≤ 6 := by rw [rulesL_length]; omega
  generalize rulesL 1 l = R at *
  have hmod := fun y => mod_c d 5 hd (by omega) (by omega) y
  obtain ⟨m0, m1⟩ := modN_in d 5 (by omega)
  generalize modN d 5 = md at *
  obtain ⟨md, rfl⟩ := Int.eq_ofNat_of_zero_le m0
  obtain ⟨D, hD⟩ : ∃ D : Nat, D = 1 + md := ⟨_, rfl⟩
  have hDI : 1 + (md : Int) = (D : Int) := by omega
  have d1 : 1 ≤ D := by omega
  have d5 : D ≤ 5 := by omega
  have hone := group_one R hG
  have hcnt := fun x u hx => count_c 1 D u R hRz x hx
  have hgood : goodB 1 D R = true := by
    have : sheetsB D = true := by simp [sheetsB]; omega
    simp [goodB, hG, this]
  have hcn : countN 1 D R = if divB D R = true then 1 else 0 := by
    rw [countN, if_pos hgood]
    show ((wins 1 ((D : Int)).toNat R).length : Int) = _
    rw [show ((D : Int)).toNat = D by omega, cyc_count D d1 d5 R hone]
    split <;> rfl
  have hfac := fun x u hx hc => factors_c 1 u R hRz x hx hc
  have hE := dE_le R (small_of _ _ hG) 
  have hsm := small_of _ _ hG
  have hcode : codeN (goodB 1 D R) = 0 := by rw [hgood]; rfl
  have hcode2 : codeN (groupB 1 R) = 0 := by rw [hG]; rfl
  have Hf := Lib.hid (fac_one R hG)
  rw [hcode] at hcnt
  rw [hcode2] at hfac
  have Hcn := Lib.hid hcn
  generalize countN 1 D R = n at *
  generalize facL 1 R = L at *
  generalize facN 1 R = N at *
  clear hgood hcn hcode hcode2 hG m0 m1 hD
  go_enter Try.func4, Try.ntmps4
  go_wp2_with (
    first
    | (go_at_call 14; refine hru.mono ?_; rintro e w1 ⟨u, rfl, hr1, hc1, hb1⟩; obtain ⟨A1, k1, rfl, _, _⟩ := id hr1)
    | (
      refine wpList_store_row rfl 25 _ _ rfl w1.heap.size _ rfl rfl 25 #[.int .i64 0, .slice none 0 0] (At.new w1 25 #[.int .i64 0, .slice none 0 0]) (sizeG _ _) rfl (grp_one _ _ rfl) ?_
      have hk1 : Keeps w1 ((w1.alloc (.cells #[.int .i64 0, .slice none 0 0] 25)).setRow w1.heap.size #[.int .i64 1, .slice A1 R.length k1]) := below_row (Keeps.alloc (Below.refl _ _) _) (Nat.le_refl _) _
      have hat2 : At ((w1.alloc (.cells #[.int .i64 0, .slice none 0 0] 25)).setRow w1.heap.size #[.int .i64 1, .slice A1 R.length k1]) w1.heap.size 25 #[.int .i64 1, .slice A1 R.length k1] := (At.new w1 25 #[.int .i64 0, .slice none 0 0]).row _
      have hr2 := hr1.below hk1
      have hkw2 : Keeps w _ := Keeps.next hb1 hk1
      generalize (w1.alloc (.cells #[.int .i64 0, .slice none 0 0] 25)).setRow w1.heap.size #[.int .i64 1, .slice A1 R.length k1] = w2 at *
      generalize w1.heap.size = bg at *
      clear hr1 hk1 hb1)
    | (go_at_call 9; refine (hmod _).mono ?_; rintro e wm ⟨rfl, rfl⟩)
    | (refine wpList_load_row rfl 25 _ rfl bg rfl 25 _ (0, 0) _ (by assumption) Try.underlying25 rfl (sizeG _ _) ?_)
    | (go_at_call 12; refine (hcnt _ _ hr2).mono ?_; rintro e w3 ⟨rfl, hb3⟩; have hat3 := hat2.later hb3; have hr3 := hr2.below hb3; have hkw3 := Keeps.next hkw2 hb3; clear hat2 hr2 hcnt)
    | (go_at_call 15; refine (hfac _ _ hr3 hc1).mono ?_; rintro e w4 ⟨u4, rfl, hu4, hb4⟩; have hat4 := hat3.later hb4; have hr4 := hr3.below hb4; have hui : RdI w4 u4 L := RdB.rd hu4 (fun _ _ h => h); have hkw4 := Keeps.next hkw3 hb4; clear hat3 hr3 hu4 hfac))
  obtain ⟨A5, k5, rfl, hm5, hcs5⟩ := id hui
  unfold maxLen at hm5
  have hbg := hat4.lt
  go_loopw [11, 12, 13] (fun a f i wr => ∃ k : Nat, k ≤ R.length ∧ i = .int .i64 k ∧ a = .int .i64 (dE (R.take k)) ∧ f = .bool (divB D (R.take k)) ∧ Keeps w4 wr) (fun _ _ i _ => R.length - (intOf i).toNat)
  case atStart => exact ⟨0, Nat.zero_le _, rfl, rfl, rfl, Below.refl _ _⟩
  case round =>
    obtain ⟨k, hk, rfl, rfl, rfl, hb⟩ := hrel
    have hat := hat4.later hb
    have hat1 := hat.cell 1
    by_cases hlt : k < R.length
    · obtain ⟨_, _, hv5, hmr, hcs⟩ := id (hr4.below hb)
      cases hv5
      obtain ⟨b0, off, u, rfl, hcell, r, hrk, rfl⟩ := hcs k hlt
      have hr1 := hone r (List.mem_of_getElem? hrk)
      have hr30 := hsm r (List.mem_of_getElem? hrk)
      have hex : ∀ x, Calls Try.prog 16 #[.string r] x fun e w' => e = .returned (.agg #[.int .i64 (exA r.data.toList), .int .i64 (exB r.data.toList)]) ∧ Keeps x w' := fun x => rexponents_c r (by unfold maxLen; omega) (all_two 1 _ hr1) x
      obtain ⟨⟨a1, a2⟩, _⟩ := ex_small r hr30
      obtain ⟨E1, E2⟩ := hE k hk
      have hgc := fun x => rgcd_c (dE (R.take k)) (exA r.data.toList) (by omega) (by omega) x
      have Hse := Lib.hid (show dE (R.take (k + 1)) = Int.gcd (dE (R.take k)) (exA r.data.toList) by rw [dE_snoc R k r hrk, gE_one _ _ hr1])
      have Hsd := Lib.hid (divB_snoc D R k r hrk)
      have htm := tmod_dvd (exA r.data.toList) D
      generalize dE (R.take k) = E at *
      generalize exA r.data.toList = x at *
      generalize divB D (R.take k) = fb at *
      generalize decide ((D : Int) ∣ x) = db at *
      generalize exB r.data.toList = y at *
      clear hcs hrk hr1 hone hsm hE hr4 hcs5 hui
      have hix := ix0 x y
      cases fb
      all_goals
        go_wp2_with (
          first
          | (go_at_call 16; refine (hex _).mono ?_; rintro e w5 ⟨rfl, hb5⟩)
          | (go_at_call 17; refine (hgc _).mono ?_; rintro e w6 ⟨rfl, hh⟩; obtain rfl := hh.symm))
        go_roundw
        case rel => exact ⟨k + 1, by omega, by go_num, by rw [Hse.out], by rw [Hsd.out]; first | rfl | simp [htm], Keeps.next hb hb5⟩
        case measure => simp [intOf]; omega
    · obtain rfl : k = R.length := by omega
      rw [List.take_length]
      have hcnn := Hcn.out
      have hff := Hf.out
      have hkwr := Keeps.next hkw4 hb
      generalize divB D R = fb at *
      have hcell : ∀ x, L = [x] → ∃ b off, A5 = some ⟨b, off, none⟩ ∧ wr.cell? ⟨b, off, none⟩ = some (.int .i64 x) := by
        intro x hx
        obtain ⟨b, off, u, hA, hc, hu⟩ := hcs5 0 (by rw [hx]; exact Nat.zero_lt_one)
        refine ⟨b, off, hA, ?_⟩
        rw [Nat.add_zero] at hc
        rw [cell_keep hc hb, hu, hx]; rfl
      clear hE hone hsm hr4 hcs5 hui Hcn Hf hm5
      generalize dE R = E at *
      rcases hff with ⟨rfl, rfl, rfl⟩ | ⟨rfl, rfl, rfl⟩ | ⟨hE1, hLE, rfl⟩
      · clear hcell
        cases fb
        all_goals
          obtain rfl := hcnn
          go_wp2_with (go_at_call 13; refine (awake_c _).mono ?_; rintro e w7 ⟨rfl, hb7⟩)
          go_ret
          exact ⟨rfl, Keeps.next hkwr hb7⟩
      · clear hcell
        cases fb
        all_goals
          obtain rfl := hcnn
          go_wp2_with (go_at_call 13; refine (awake_c _).mono ?_; rintro e w7 ⟨rfl, hb7⟩)
          go_ret
          exact ⟨rfl, Keeps.next hkwr hb7⟩
      · obtain ⟨b, off, rfl, hce⟩ := hcell E hLE
        subst hLE
        have q0 : (E == 0) = false := by simp; omega
        have q1 : (E == 1) = false := by simp; omega
        clear hcell
        cases fb
        all_goals
          obtain rfl := hcnn
          go_wp2_with (go_at_call 13; refine (awake_c _).mono ?_; rintro e w7 ⟨rfl, hb7⟩)
          go_ret
          exact ⟨rfl, Keeps.next hkwr hb7⟩
end Go.Proofs.Ytikedhkibdeheaa
