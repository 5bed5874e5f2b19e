/- The law of Factors. -/
import Derived.Test.YtfaogfcbppojoaaJd
import Derived.Test.YtfaogfcbppojoaaHd
namespace Go.Proofs.Ytfaogfcbppojoaa
open Go.RowKit
set_option linter.unusedVariables false

theorem facL_yes (g : Int) (rules : List ByteArray) (h : groupB g rules = true) : facL g rules = bigs (allF g rules) ∧ facN g rules = frees (allF g rules) := by
  simp [facL, facN, h]
theorem facL_no (g : Int) (rules : List ByteArray) (h : groupB g rules = false) : facL g rules = [] ∧ facN g rules = 0 := by
  simp [facL, facN, h]
theorem ints_same (v v' : Value) (s : List Int) (w : World) (ha : RdI w v s) (hb : RdI w v' s) :
    Calls Try.prog 16 #[v, v'] w fun e w' => e = .returned (.bool true) ∧ Keeps w w' := by
  refine (ints_c v v' s s w ha hb).mono ?_
  rintro e w' ⟨rfl, m, rfl⟩
  exact ⟨by simp, keeps_drewN _ _⟩
theorem cap_form {v : Value} (h : Cap v) : ∃ A n c, v = .slice A n c ∧ n ≤ c := by
  match v, h with
  | .slice A n c, h => exact ⟨A, n, c, rfl, h⟩
set_option maxHeartbeats 2000000 in
theorem law_factors (g : Int) (v : Value) (rules : List ByteArray) (hz : szOk rules) (w : World) (hv : RdS w v rules) :
    Calls Try.prog 4 #[.agg #[.int .i64 g, v]] w fun e w' => e = .returned (.bool true) ∧ Keeps w w' := by
  have hgr := fun o => group_c g v rules hz (w.alloc o) (hv.below (Keeps.alloc (Below.refl _ w) o))
  have hbo := briefs_ok rules
  generalize briefs rules = bs at *
  by_cases hG : groupB g bs = true
  · obtain ⟨e1, e2⟩ := facL_yes g bs hG
    have hfac := fun x v hx hc => factors_c g v bs hbo x hx hc
    have hrg := fun x v hx => rgroup_c g v bs hbo x hx
    have hrf := fun x v hx => rfactors_c g v bs hbo hG x hx
    have hfr := frees_le (allF g bs)
    rw [e1, e2, hG] at hfac
    rw [hG] at hrg
    clear e1 e2 hG
    generalize bigs (allF g bs) = L at *
    generalize frees (allF g bs) = n at *
    go_enter Try.func4, Try.ntmps4
    go_wp2_with (
      first
      | (refine wpList_load_row rfl 30 _ rfl w.heap.size rfl 30 _ (0, 0) _ (At.new w 30 #[.int .i64 g, v]) Try.underlying30 rfl (sizeG _ _) ?_)
      | (go_at_call 12; refine (hgr _).mono ?_; rintro e w1 ⟨u, rfl, hr1, hc1, hb1⟩; obtain ⟨A1, n1, k1, rfl, hcap1⟩ := cap_form hc1)
      | (
        refine wpList_store_row rfl 30 _ _ rfl w1.heap.size _ rfl rfl 30 #[.int .i64 0, .slice none 0 0] (At.new w1 30 #[.int .i64 0, .slice none 0 0]) (sizeG _ _) rfl (grp_one g _ rfl) ?_
        have hk1 : Keeps w1 ((w1.alloc (.cells #[.int .i64 0, .slice none 0 0] 30)).setRow w1.heap.size #[.int .i64 g, .slice A1 n1 k1]) := below_row (Keeps.alloc (Below.refl _ _) _) (Nat.le_refl _) _
        have hat2 : At ((w1.alloc (.cells #[.int .i64 0, .slice none 0 0] 30)).setRow w1.heap.size #[.int .i64 g, .slice A1 n1 k1]) w1.heap.size 30 #[.int .i64 g, .slice A1 n1 k1] := (At.new w1 30 #[.int .i64 0, .slice none 0 0]).row _
        have hr2 := hr1.below hk1
        have hkw2 : Keeps w _ := Keeps.next (Keeps.next (Keeps.alloc (Below.refl _ _) _) hb1) hk1
        generalize (w1.alloc (.cells #[.int .i64 0, .slice none 0 0] 30)).setRow w1.heap.size #[.int .i64 g, .slice A1 n1 k1] = w2 at *
        generalize w1.heap.size = bg at *
        clear hr1 hk1 hb1)
      | (refine wpList_load_row rfl 30 _ rfl bg rfl 30 _ (0, 0) _ (by assumption) Try.underlying30 rfl (sizeG _ _) ?_)
      | (go_at_call 13; refine (hfac _ _ hr2 hc1).mono ?_; rintro e w3 ⟨u2, rfl, hu2, hb3⟩; have hat3 := hat2.later hb3; have hr3 := hr2.below hb3; have hu3 : RdI w3 u2 L := RdB.rd hu2 (fun _ _ h => h); have hkw3 := Keeps.next hkw2 hb3; clear hat2 hr2 hu2 hfac)
      | (go_at_call 14; refine (hrg _ _ hr3).mono ?_; rintro e w4 ⟨rfl, hb4⟩; have hat4 := hat3.later hb4; have hr4 := hr3.below hb4; have hu4 := hu3.below hb4; have hkw4 := Keeps.next hkw3 hb4; clear hat3 hr3 hu3 hrg)
      | (go_at_call 15; refine (hrf _ _ hr4).mono ?_; rintro e w5 ⟨u5, rfl, hu5, hb5⟩; have hu45 := hu4.below hb5; have hkw5 := Keeps.next hkw4 hb5; clear hat4 hr4 hu4 hrf)
      | (go_at_call 16; refine (ints_same _ _ L _ hu45 hu5).mono ?_; rintro e w6 ⟨rfl, hb6⟩; have hkw6 := Keeps.next hkw5 hb6)
      | (go_at_call 10; refine (awake_c _).mono ?_; rintro e w7 ⟨rfl, hb7⟩; have hkw7 := Keeps.next hkw6 hb7))
    go_ret
    exact ⟨rfl, hkw7⟩
  · have hG' : groupB g bs = false := by simpa using hG
    obtain ⟨e1, e2⟩ := facL_no g bs hG'
    have hfac := fun x v hx hc => factors_c g v bs hbo x hx hc
    have hrg := fun x v hx => rgroup_c g v bs hbo x hx
    rw [e1, e2, hG'] at hfac
    rw [hG'] at hrg
    clear e1 e2 hG hG'
    go_enter Try.func4, Try.ntmps4
    go_wp2_with (
      first
      | (refine wpList_load_row rfl 30 _ rfl w.heap.size rfl 30 _ (0, 0) _ (At.new w 30 #[.int .i64 g, v]) Try.underlying30 rfl (sizeG _ _) ?_)
      | (go_at_call 12; refine (hgr _).mono ?_; rintro e w1 ⟨u, rfl, hr1, hc1, hb1⟩; obtain ⟨A1, n1, k1, rfl, hcap1⟩ := cap_form hc1)
      | (
        refine wpList_store_row rfl 30 _ _ rfl w1.heap.size _ rfl rfl 30 #[.int .i64 0, .slice none 0 0] (At.new w1 30 #[.int .i64 0, .slice none 0 0]) (sizeG _ _) rfl (grp_one g _ rfl) ?_
        have hk1 : Keeps w1 ((w1.alloc (.cells #[.int .i64 0, .slice none 0 0] 30)).setRow w1.heap.size #[.int .i64 g, .slice A1 n1 k1]) := below_row (Keeps.alloc (Below.refl _ _) _) (Nat.le_refl _) _
        have hat2 : At ((w1.alloc (.cells #[.int .i64 0, .slice none 0 0] 30)).setRow w1.heap.size #[.int .i64 g, .slice A1 n1 k1]) w1.heap.size 30 #[.int .i64 g, .slice A1 n1 k1] := (At.new w1 30 #[.int .i64 0, .slice none 0 0]).row _
        have hr2 := hr1.below hk1
        have hkw2 : Keeps w _ := Keeps.next (Keeps.next (Keeps.alloc (Below.refl _ _) _) hb1) hk1
        generalize (w1.alloc (.cells #[.int .i64 0, .slice none 0 0] 30)).setRow w1.heap.size #[.int .i64 g, .slice A1 n1 k1] = w2 at *
        generalize w1.heap.size = bg at *
        clear hr1 hk1 hb1)
      | (refine wpList_load_row rfl 30 _ rfl bg rfl 30 _ (0, 0) _ (by assumption) Try.underlying30 rfl (sizeG _ _) ?_)
      | (go_at_call 13; refine (hfac _ _ hr2 hc1).mono ?_; rintro e w3 ⟨u2, rfl, hu2, hb3⟩; obtain ⟨A2, k2, rfl, _⟩ := id hu2; have hat3 := hat2.later hb3; have hr3 := hr2.below hb3; have hkw3 := Keeps.next hkw2 hb3; clear hat2 hr2 hu2 hfac)
      | (go_at_call 14; refine (hrg _ _ hr3).mono ?_; rintro e w4 ⟨rfl, hb4⟩; have hkw4 := Keeps.next hkw3 hb4; clear hat3 hr3 hrg)
      | (go_at_call 10; refine (awake_c _).mono ?_; rintro e w7 ⟨rfl, hb7⟩; have hkw7 := Keeps.next hkw4 hb7))
    go_ret
    exact ⟨rfl, hkw7⟩
theorem law_factors' (g : Int) (v : Value) (rules : List ByteArray) (w : World) (hv : RdS w v rules) (hz : szOk rules) (_ : Cap v) :
    Calls Try.prog 4 #[.agg #[.int .i64 g, v]] w fun e w' => e = .returned (.bool true) ∧ Keeps w w' :=
  law_factors g v rules hz w hv
end Go.Proofs.Ytfaogfcbppojoaa
