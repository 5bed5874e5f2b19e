/- The law of Keeps. -/
import Derived.Test.YtfaogfcbppojoaaKh
import Derived.Test.YtfaogfcbppojoaaJc
namespace Go.Proofs.Ytfaogfcbppojoaa
open Go.RowKit
set_option linter.unusedVariables false

set_option maxHeartbeats 2000000 in
set_option maxRecDepth 100000 in
theorem law_keeps (g : Int) (vr : Value) (rules : List ByteArray) (v : Value) (t : List (List Int)) (w : World) (hr : RdS w vr rules) (hz : szOk rules) (_ : Cap vr) (hv : RdTC w v t) (_ : ∀ l ∈ t, fits l) (_ : Cap v) :
    Calls Try.prog 6 #[.agg #[.int .i64 g, vr], v] w fun e w' => e = .returned (.bool true) ∧ Keeps w w' := by
  have hgr := fun o => group_c g vr rules hz (w.alloc o) (hr.below (Keeps.alloc (Below.refl _ w) o))
  have hbo := briefs_ok rules
  generalize briefs rules = bs at *
  have hrg := fun x v hx => rgroup_c g v bs hbo x hx
  have hrt := fun x u (hx : RdT x u (cut t)) => rtable_k u (cut t) x hx
  by_cases hG : groupB g bs = true
  · rw [hG] at hrg
    by_cases hB : windB (cut t) = true
    · have hck := fun x u u' (h : RdS x u bs) (h' : RdT x u' (cut t)) => ckeeps_yes g u bs hbo hG u' (cut t) hB x h h'
      have hrk := fun x u u' (h : RdS x u bs) (h' : RdT x u' (cut t)) => rkeeps_c g u bs hG u' (cut t) hB x h h'
      rw [hB] at hrt
      generalize kpB g bs (cut t) = kb at *
      have hkk : (kb == kb) = true := by simp
      clear hG hB hr
      go_enter Try.func6, Try.ntmps6
      go_wp2_with (
        first
        | (refine wpList_load_row rfl 30 _ rfl w.heap.size rfl 30 _ (0, 0) _ (At.new w 30 #[.int .i64 g, vr]) Try.underlying30 rfl (sizeG _ _) ?_)
        | (go_at_call 12; refine (hgr _).mono ?_; rintro e w1 ⟨u, rfl, hr1, hc1, hb1⟩; obtain ⟨A1, n1, k1, rfl, hcap1⟩ := cap_form hc1; have hb01 : Keeps w w1 := Keeps.next (Keeps.alloc (Below.refl _ w) _) hb1; have htab := table_c v t w1 (hv.below hb01))
        | (go_at_call 17; refine htab.mono ?_; rintro e w2 ⟨u2, rfl, hu2, hb2⟩; have hb02 : Keeps w w2 := Keeps.next hb01 hb2; have hr2 := hr1.below hb2; clear htab hr1 hgr)
        | (
          refine wpList_store_row rfl 30 _ _ rfl w2.heap.size _ rfl rfl 30 #[.int .i64 0, .slice none 0 0] (At.new w2 30 #[.int .i64 0, .slice none 0 0]) (sizeG _ _) rfl (grp_one g _ rfl) ?_
          have hk1 : Keeps w2 ((w2.alloc (.cells #[.int .i64 0, .slice none 0 0] 30)).setRow w2.heap.size #[.int .i64 g, .slice A1 n1 k1]) := below_row (Keeps.alloc (Below.refl _ _) _) (Nat.le_refl _) _
          have hat3 : At ((w2.alloc (.cells #[.int .i64 0, .slice none 0 0] 30)).setRow w2.heap.size #[.int .i64 g, .slice A1 n1 k1]) w2.heap.size 30 #[.int .i64 g, .slice A1 n1 k1] := (At.new w2 30 #[.int .i64 0, .slice none 0 0]).row _
          have hr3 := hr2.below hk1
          have hu3 := hu2.below hk1
          have hkw3 : Keeps w _ := Keeps.next hb02 hk1
          generalize (w2.alloc (.cells #[.int .i64 0, .slice none 0 0] 30)).setRow w2.heap.size #[.int .i64 g, .slice A1 n1 k1] = w3 at *
          generalize w2.heap.size = bg at *
          clear hr2 hu2 hk1 hb2 hb1)
        | (refine wpList_load_row rfl 30 _ rfl bg rfl 30 _ (0, 0) _ (by assumption) Try.underlying30 rfl (sizeG _ _) ?_)
        | (go_at_call 21; refine (hck _ _ _ hr3 hu3).mono ?_; rintro e w4 ⟨rfl, hb4⟩; have hat4 := hat3.later hb4; have hr4 := hr3.below hb4; have hu4 := hu3.below hb4; have hkw4 := Keeps.next hkw3 hb4; clear hat3 hr3 hu3 hck)
        | (go_at_call 14; refine (hrg _ _ hr4).mono ?_; rintro e w5 ⟨rfl, hb5⟩; have hat5 := hat4.later hb5; have hr5 := hr4.below hb5; have hu5 := hu4.below hb5; have hkw5 := Keeps.next hkw4 hb5; clear hat4 hr4 hu4 hrg)
        | (go_at_call 19; refine (hrt _ _ hu5).mono ?_; rintro e w6 ⟨rfl, hb6⟩; have hat6 := hat5.later hb6; have hr6 := hr5.below hb6; have hu6 := hu5.below hb6; have hkw6 := Keeps.next hkw5 hb6; clear hat5 hr5 hu5)
        | (go_at_call 22; refine (hrk _ _ _ hr6 hu6).mono ?_; rintro e w7 ⟨rfl, hb7⟩; have hkw7 := Keeps.next hkw6 hb7)
        | (go_at_call 10; refine (awake_c _).mono ?_; rintro e w8 ⟨rfl, hb8⟩; have hkw8 := Keeps.next hkw7 hb8))
      go_ret
      exact ⟨rfl, hkw8⟩
    · have hB' : windB (cut t) = false := by simpa using hB
      have hck := fun x u u' (h : RdS x u bs) (h' : RdT x u' (cut t)) => ckeeps_no g u bs hbo u' (cut t) (by rw [hB', Bool.and_false]) x h h'
      rw [hB'] at hrt
      clear hG hB hB' hr
      go_enter Try.func6, Try.ntmps6
      go_wp2_with (
        first
        | (refine wpList_load_row rfl 30 _ rfl w.heap.size rfl 30 _ (0, 0) _ (At.new w 30 #[.int .i64 g, vr]) Try.underlying30 rfl (sizeG _ _) ?_)
        | (go_at_call 12; refine (hgr _).mono ?_; rintro e w1 ⟨u, rfl, hr1, hc1, hb1⟩; obtain ⟨A1, n1, k1, rfl, hcap1⟩ := cap_form hc1; have hb01 : Keeps w w1 := Keeps.next (Keeps.alloc (Below.refl _ w) _) hb1; have htab := table_c v t w1 (hv.below hb01))
        | (go_at_call 17; refine htab.mono ?_; rintro e w2 ⟨u2, rfl, hu2, hb2⟩; have hb02 : Keeps w w2 := Keeps.next hb01 hb2; have hr2 := hr1.below hb2; clear htab hr1 hgr)
        | (
          refine wpList_store_row rfl 30 _ _ rfl w2.heap.size _ rfl rfl 30 #[.int .i64 0, .slice none 0 0] (At.new w2 30 #[.int .i64 0, .slice none 0 0]) (sizeG _ _) rfl (grp_one g _ rfl) ?_
          have hk1 : Keeps w2 ((w2.alloc (.cells #[.int .i64 0, .slice none 0 0] 30)).setRow w2.heap.size #[.int .i64 g, .slice A1 n1 k1]) := below_row (Keeps.alloc (Below.refl _ _) _) (Nat.le_refl _) _
          have hat3 : At ((w2.alloc (.cells #[.int .i64 0, .slice none 0 0] 30)).setRow w2.heap.size #[.int .i64 g, .slice A1 n1 k1]) w2.heap.size 30 #[.int .i64 g, .slice A1 n1 k1] := (At.new w2 30 #[.int .i64 0, .slice none 0 0]).row _
          have hr3 := hr2.below hk1
          have hu3 := hu2.below hk1
          have hkw3 : Keeps w _ := Keeps.next hb02 hk1
          generalize (w2.alloc (.cells #[.int .i64 0, .slice none 0 0] 30)).setRow w2.heap.size #[.int .i64 g, .slice A1 n1 k1] = w3 at *
          generalize w2.heap.size = bg at *
          clear hr2 hu2 hk1 hb2 hb1)
        | (refine wpList_load_row rfl 30 _ rfl bg rfl 30 _ (0, 0) _ (by assumption) Try.underlying30 rfl (sizeG _ _) ?_)
        | (go_at_call 21; refine (hck _ _ _ hr3 hu3).mono ?_; rintro e w4 ⟨rfl, hb4⟩; have hat4 := hat3.later hb4; have hr4 := hr3.below hb4; have hu4 := hu3.below hb4; have hkw4 := Keeps.next hkw3 hb4; clear hat3 hr3 hu3 hck)
        | (go_at_call 14; refine (hrg _ _ hr4).mono ?_; rintro e w5 ⟨rfl, hb5⟩; have hat5 := hat4.later hb5; have hr5 := hr4.below hb5; have hu5 := hu4.below hb5; have hkw5 := Keeps.next hkw4 hb5; clear hat4 hr4 hu4 hrg)
        | (go_at_call 19; refine (hrt _ _ hu5).mono ?_; rintro e w6 ⟨rfl, hb6⟩; have hat6 := hat5.later hb6; have hr6 := hr5.below hb6; have hu6 := hu5.below hb6; have hkw6 := Keeps.next hkw5 hb6; clear hat5 hr5 hu5)
        | (go_at_call 10; refine (awake_c _).mono ?_; rintro e w8 ⟨rfl, hb8⟩; have hkw8 := Keeps.next hkw6 hb8))
      go_ret
      exact ⟨rfl, hkw8⟩
  · have hG' : groupB g bs = false := by simpa using hG
    have hck := fun x u u' (h : RdS x u bs) (h' : RdT x u' (cut t)) => ckeeps_no g u bs hbo u' (cut t) (by rw [hG', Bool.false_and]) x h h'
    rw [hG'] at hrg
    clear hG hG' hr hrt
    go_enter Try.func6, Try.ntmps6
    go_wp2_with (
      first
      | (refine wpList_load_row rfl 30 _ rfl w.heap.size rfl 30 _ (0, 0) _ (At.new w 30 #[.int .i64 g, vr]) Try.underlying30 rfl (sizeG _ _) ?_)
      | (go_at_call 12; refine (hgr _).mono ?_; rintro e w1 ⟨u, rfl, hr1, hc1, hb1⟩; obtain ⟨A1, n1, k1, rfl, hcap1⟩ := cap_form hc1; have hb01 : Keeps w w1 := Keeps.next (Keeps.alloc (Below.refl _ w) _) hb1; have htab := table_c v t w1 (hv.below hb01))
      | (go_at_call 17; refine htab.mono ?_; rintro e w2 ⟨u2, rfl, hu2, hb2⟩; have hb02 : Keeps w w2 := Keeps.next hb01 hb2; have hr2 := hr1.below hb2; clear htab hr1 hgr)
      | (
        refine wpList_store_row rfl 30 _ _ rfl w2.heap.size _ rfl rfl 30 #[.int .i64 0, .slice none 0 0] (At.new w2 30 #[.int .i64 0, .slice none 0 0]) (sizeG _ _) rfl (grp_one g _ rfl) ?_
        have hk1 : Keeps w2 ((w2.alloc (.cells #[.int .i64 0, .slice none 0 0] 30)).setRow w2.heap.size #[.int .i64 g, .slice A1 n1 k1]) := below_row (Keeps.alloc (Below.refl _ _) _) (Nat.le_refl _) _
        have hat3 : At ((w2.alloc (.cells #[.int .i64 0, .slice none 0 0] 30)).setRow w2.heap.size #[.int .i64 g, .slice A1 n1 k1]) w2.heap.size 30 #[.int .i64 g, .slice A1 n1 k1] := (At.new w2 30 #[.int .i64 0, .slice none 0 0]).row _
        have hr3 := hr2.below hk1
        have hu3 := hu2.below hk1
        have hkw3 : Keeps w _ := Keeps.next hb02 hk1
        generalize (w2.alloc (.cells #[.int .i64 0, .slice none 0 0] 30)).setRow w2.heap.size #[.int .i64 g, .slice A1 n1 k1] = w3 at *
        generalize w2.heap.size = bg at *
        clear hr2 hu2 hk1 hb2 hb1)
      | (refine wpList_load_row rfl 30 _ rfl bg rfl 30 _ (0, 0) _ (by assumption) Try.underlying30 rfl (sizeG _ _) ?_)
      | (go_at_call 21; refine (hck _ _ _ hr3 hu3).mono ?_; rintro e w4 ⟨rfl, hb4⟩; have hat4 := hat3.later hb4; have hr4 := hr3.below hb4; have hu4 := hu3.below hb4; have hkw4 := Keeps.next hkw3 hb4; clear hat3 hr3 hu3 hck)
      | (go_at_call 14; refine (hrg _ _ hr4).mono ?_; rintro e w5 ⟨rfl, hb5⟩; have hat5 := hat4.later hb5; have hr5 := hr4.below hb5; have hu5 := hu4.below hb5; have hkw5 := Keeps.next hkw4 hb5; clear hat4 hr4 hu4 hrg)
      | (go_at_call 10; refine (awake_c _).mono ?_; rintro e w8 ⟨rfl, hb8⟩; have hkw8 := Keeps.next hkw5 hb8))
    go_ret
    exact ⟨rfl, hkw8⟩
end Go.Proofs.Ytfaogfcbppojoaa
