/- The reference's Value. -/
import Derived.Test.YtngonghgkeobhaaDb
import Derived.Test.YtngonghgkeobhaaUa
namespace Go.Proofs.Ytngonghgkeobhaa
open Go.RowKit Go.Shelf
set_option linter.unusedVariables false
set_option linter.unusedSimpArgs false

theorem hs_rdS (l : List UInt8) : ∀ k, k ≤ 12 → ∀ u, u < 12 → hs (rdS l k) u = (decide (u < k) && decide (l[u]? = some 49))
  | 0, _, u, hu => by simp [rdS, hs]
  | k + 1, hk, u, hu => by
    have ih := hs_rdS l k (by omega) u hu
    unfold rdS
    cases hl : l[k]? with
    | none =>
      simp only
      rw [ih]
      by_cases e : u = k
      · subst e; rw [hl]; simp
      · rw [show decide (u < k + 1) = decide (u < k) by rw [decide_eq_decide]; omega]
    | some c =>
      simp only
      by_cases hc : c = 49
      · rw [if_pos hc, hs_flp _ k u (by omega) hu]
        by_cases e : u = k
        · subst e
          rw [if_pos rfl, ih, hl, hc]; simp
        · rw [if_neg e, ih, show decide (u < k + 1) = decide (u < k) by rw [decide_eq_decide]; omega]
      · rw [if_neg hc, ih]
        by_cases e : u = k
        · subst e; rw [hl]; simp [hc]
        · rw [show decide (u < k + 1) = decide (u < k) by rw [decide_eq_decide]; omega]
/-- The edges join vertices below n. -/
def below (n : Nat) (l : List Ed) : Prop := ∀ x ∈ l, 0 ≤ x.1 ∧ x.1 < n ∧ 0 ≤ x.2.1 ∧ x.2.1 < n
theorem side_ne (s : ByteArray) (hs12 : s.size ≤ 12) (hok : s.data.toList.all okC = true) (a b : Nat) (ha : a < s.size) (hb : b < s.size) : ((s[a].toNat : Int) != (s[b].toNat : Int)) = (hs (rdS s.data.toList s.size) a != hs (rdS s.data.toList s.size) b) := by
  have h1 : ∀ (k : Nat) (hk : k < s.size), s.data.toList[k]? = some s[k] ∧ (s[k] = 48 ∨ s[k] = 49) := fun k hk => by
    have e : s.data.toList[k]? = some s[k] := by rw [Array.getElem?_toList]; exact Array.getElem?_eq_getElem hk
    refine ⟨e, ?_⟩
    have := List.all_eq_true.1 hok _ (List.mem_of_getElem? e)
    simpa [okC] using this
  obtain ⟨e1, o1⟩ := h1 a ha
  obtain ⟨e2, o2⟩ := h1 b hb
  rw [hs_rdS _ _ hs12 a (by omega), hs_rdS _ _ hs12 b (by omega), e1, e2]
  simp only [ha, hb, decide_true, Bool.true_and]
  rcases o1 with h | h <;> rcases o2 with h' | h' <;> rw [h, h'] <;> decide
set_option maxHeartbeats 4000000 in
set_option maxRecDepth 100000 in
theorem rvalue_c (v : Value) (l : List Ed) (s : ByteArray) (hl : edgesOk l) (hbl : below s.size l) (hs12 : s.size ≤ 12) (hok : s.data.toList.all okC = true) (w : World) (hv : RdE w v l) :
    Calls Try.prog 24 #[v, .string s] w fun e w' => e = .returned (.int .i64 (valL (rdS s.data.toList s.size) l)) ∧ ∃ m, w' = w.drewN m := by
  obtain ⟨A, c, rfl, hm, hcs⟩ := id hv
  have hl41 := hl.1
  have hne := side_ne s hs12 hok
  generalize rdS s.data.toList s.size = S at *
  have Hne := Lib.hid hne
  clear hne hok
  go_enter Try.func24, Try.ntmps24
  go_wp2_with fail
  go_loopw [5, 6] (fun sum i wr => ∃ k : Nat, k ≤ l.length ∧ i = .int .i64 k ∧ sum = .int .i64 (valL S (l.take k)) ∧ ∃ m, wr = w.drewN m) (fun _ i _ => l.length - (intOf i).toNat)
  case atStart => exact ⟨0, Nat.zero_le _, rfl, rfl, 0, rfl⟩
  case round =>
    obtain ⟨k, hk, rfl, rfl, m0, rfl⟩ := hrel
    by_cases hlt : k < l.length
    · obtain ⟨x, hx⟩ : ∃ x, l[k]? = some x := ⟨_, List.getElem?_eq_getElem hlt⟩
      obtain ⟨b, off, rfl, c1, c2, c3⟩ := hcs k x hx
      have hxb := hbl x (List.mem_of_getElem? hx)
      have hxm := hl.2 x (List.mem_of_getElem? hx)
      have hvb := valL_in S l hl k
      have HS := Lib.hid (show valL S (l.take (k + 1)) = valL S (l.take k) + wgt S x by rw [take_at l k x hx, valL_snoc])
      obtain ⟨a, ha⟩ := Int.eq_ofNat_of_zero_le hxb.1
      obtain ⟨d, hd⟩ := Int.eq_ofNat_of_zero_le hxb.2.2.1
      have ha' : a < s.size := by omega
      have hd' : d < s.size := by omega
      have Hw := Lib.hid (show wgt S x = if (((s[a].toNat : Int) != (s[d].toNat : Int)) = true) then x.2.2 else 0 by rw [Hne.out a d ha' hd', wgt, ha, hd]; rfl)
      rw [ha] at c1
      rw [hd] at c2
      have hkI : (k : Int) < (l.length : Int) := by omega
      have haI : (a : Int) < (s.size : Int) := by omega
      have hdI : (d : Int) < (s.size : Int) := by omega
      obtain ⟨wt, hwt⟩ : ∃ wt, x.2.2 = wt := ⟨_, rfl⟩
      rw [hwt] at c3 hxm
      have Hwt := Lib.hid hwt
      clear hx hwt hxb hcs
      generalize valL S (l.take k) = va at *
      go_upto_region 5 with fail
      refine region_any_inv (G := Unit) (f := ?f) (fun _ => [.string s, .slice (some ⟨b, off, none⟩) l.length c, .int .i64 k, .pointer (some ⟨b, off + k * 3, none⟩), .pointer (some ⟨b, off + k * 3, none⟩), .int .i64 a, .int .u8 s[a].toNat, .string s, .slice (some ⟨b, off, none⟩) l.length c, .int .i64 k, .pointer (some ⟨b, off + k * 3, none⟩), .pointer (some ⟨b, off + k * 3 + 1, none⟩), .int .i64 d, .int .u8 s[d].toNat, .bool ((s[a].toNat : Int) != (s[d].toNat : Int))])
          (fun _ L w' => ∃ m, w' = w.drewN m) () (fun _ => ?hf) (by kernel_rfl) (by kernel_rfl) ⟨m0 + 1, rfl⟩ ?steps ?fin
      case hf =>
        simp only [fill, List.toList_toArray, List.zip_cons_cons, List.zip_nil_left, List.zip_nil_right, List.foldl_cons, List.foldl_nil, Act.put, List.setIfInBounds_toArray, List.set_cons_succ, List.set_cons_zero]
        exact rfl
      case steps =>
          refine StepsU.cons rfl (fun G L w' hL hr hc hF => ?_) ?_
          · obtain ⟨m, rfl⟩ := hF
            refine StepU.go rfl (fun K hK => ?_)
            go_simp
            exact hK () _ ⟨m, rfl⟩
          refine StepsU.cons rfl (fun G L w' hL hr hc hF => ?_) ?_
          · obtain ⟨m, rfl⟩ := hF
            refine StepU.go rfl (fun K hK => ?_)
            go_simp
            exact hK () _ ⟨m, rfl⟩
          refine StepsU.cons rfl (fun G L w' hL hr hc hF => ?_) ?_
          · obtain ⟨m, rfl⟩ := hF
            refine StepU.go rfl (fun K hK => ?_)
            go_simp
            exact hK () _ ⟨m, rfl⟩
          refine StepsU.cons rfl (fun G L w' hL hr hc hF => ?_) ?_
          · obtain ⟨m, rfl⟩ := hF
            refine StepU.go rfl (fun K hK => ?_)
            go_simp
            exact hK () _ ⟨m, rfl⟩
          refine StepsU.cons rfl (fun G L w' hL hr hc hF => ?_) ?_
          · obtain ⟨m, rfl⟩ := hF
            refine StepU.go rfl (fun K hK => ?_)
            go_simp
            exact hK () _ ⟨m, rfl⟩
          refine StepsU.cons rfl (fun G L w' hL hr hc hF => ?_) ?_
          · obtain ⟨m, rfl⟩ := hF
            refine StepU.go rfl (fun K hK => ?_)
            go_simp
            exact hK () _ ⟨m, rfl⟩
          refine StepsU.cons rfl (fun G L w' hL hr hc hF => ?_) ?_
          · obtain ⟨m, rfl⟩ := hF
            refine StepU.go rfl (fun K hK => ?_)
            go_simp
            exact hK () _ ⟨m, rfl⟩
          refine StepsU.cons rfl (fun G L w' hL hr hc hF => ?_) ?_
          · obtain ⟨m, rfl⟩ := hF
            refine StepU.go rfl (fun K hK => ?_)
            go_simp
            exact hK () _ ⟨m, rfl⟩
          refine StepsU.cons rfl (fun G L w' hL hr hc hF => ?_) ?_
          · obtain ⟨m, rfl⟩ := hF
            refine StepU.go rfl (fun K hK => ?_)
            go_simp
            exact hK () _ ⟨m, rfl⟩
          refine StepsU.cons rfl (fun G L w' hL hr hc hF => ?_) ?_
          · obtain ⟨m, rfl⟩ := hF
            refine StepU.go rfl (fun K hK => ?_)
            go_simp
            exact hK () _ ⟨m, rfl⟩
          refine StepsU.cons rfl (fun G L w' hL hr hc hF => ?_) ?_
          · obtain ⟨m, rfl⟩ := hF
            refine StepU.go rfl (fun K hK => ?_)
            go_simp
            exact hK () _ ⟨m, rfl⟩
          refine StepsU.cons rfl (fun G L w' hL hr hc hF => ?_) ?_
          · obtain ⟨m, rfl⟩ := hF
            refine StepU.go rfl (fun K hK => ?_)
            go_simp
            exact hK () _ ⟨m, rfl⟩
          refine StepsU.cons rfl (fun G L w' hL hr hc hF => ?_) ?_
          · obtain ⟨m, rfl⟩ := hF
            refine StepU.go rfl (fun K hK => ?_)
            go_simp
            exact hK () _ ⟨m, rfl⟩
          refine StepsU.cons rfl (fun G L w' hL hr hc hF => ?_) ?_
          · obtain ⟨m, rfl⟩ := hF
            refine StepU.go rfl (fun K hK => ?_)
            go_simp
            exact hK () _ ⟨m, rfl⟩
          refine StepsU.cons rfl (fun G L w' hL hr hc hF => ?_) ?_
          · obtain ⟨m, rfl⟩ := hF
            refine StepU.go rfl (fun K hK => ?_)
            go_simp
            exact hK () _ ⟨m, rfl⟩
          exact StepsU.nil (by simp)
      case fin =>
      intro u L w8 hall ⟨m8, hm8⟩
      subst hm8
      by_cases hcmp : ((s[a].toNat : Int) != (s[d].toNat : Int)) = true
      · have Hc := Lib.hid hcmp
        rw [hcmp]
        clear hcmp
        have hwv : IntKind.i64.wrap (va + wt) = va + wt := IntWalk.i64_in _ (by omega)
        go_wp2_with fail
        go_roundw
        case rel => exact ⟨k + 1, by omega, by go_num, by rw [HS.out, Hw.out, if_pos Hc.out, Hwt.out], _, rfl⟩
        case measure => simp [intOf]; omega
      · have hcf : ((s[a].toNat : Int) != (s[d].toNat : Int)) = false := by simpa using hcmp
        have Hc := Lib.hid hcf
        rw [hcf]
        clear hcf hcmp
        go_wp2_with fail
        go_roundw
        case rel => exact ⟨k + 1, by omega, by go_num, by rw [HS.out, Hw.out, if_neg (by rw [Hc.out]; simp), Int.add_zero], _, rfl⟩
        case measure => simp [intOf]; omega
    · obtain rfl : k = l.length := by omega
      rw [List.take_length]
      go_wp2_with fail
      go_ret
      exact ⟨rfl, _, rfl⟩
end Go.Proofs.Ytngonghgkeobhaa
