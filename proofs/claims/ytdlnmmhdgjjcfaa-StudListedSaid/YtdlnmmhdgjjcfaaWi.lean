/- The law Nexts. -/
import Derived.Test.YtdlnmmhdgjjcfaaWh
namespace Go.Proofs.Ytdlnmmhdgjjcfaa
open Go.RowKit Go.Shelf
set_option linter.unusedVariables false
set_option linter.unusedSimpArgs false

theorem nx_none (d : Nat) (d5 : d ≤ 7) (A : Option Addr) (c : Nat) (l : List Int) (hll : l.length = d) (ho : ordB l = true) (hf : (clrs [] d).find? (lowB l) = none) (w : World) (hv : RdI w (.slice A d c) l) :
    Calls Try.prog 13 #[.slice A d c] w fun e w' => e = .returned (.tuple #[.slice none 0 0, .int .i64 6]) ∧ Keeps w w' := by
  refine (next_yes d d5 A c l hll ho w hv).mono ?_
  rintro e w' ⟨(⟨_, rfl⟩ | ⟨x, b, cc, hx, _⟩), hb⟩
  · exact ⟨rfl, hb⟩
  · rw [hf] at hx; cases hx
theorem nx_some (d : Nat) (d5 : d ≤ 7) (A : Option Addr) (c : Nat) (l : List Int) (hll : l.length = d) (ho : ordB l = true) (x : List Int) (hf : (clrs [] d).find? (lowB l) = some x) (w : World) (hv : RdI w (.slice A d c) l) :
    Calls Try.prog 13 #[.slice A d c] w fun e w' => ∃ b cc, e = .returned (.tuple #[.slice (some ⟨b, 0, none⟩) d cc, .int .i64 0]) ∧ RdI w' (.slice (some ⟨b, 0, none⟩) d cc) x ∧ Keeps w w' := by
  refine (next_yes d d5 A c l hll ho w hv).mono ?_
  rintro e w' ⟨(⟨h0, rfl⟩ | ⟨y, b, cc, hy, _, rfl, _, hr⟩), hb⟩
  · rw [hf] at h0; cases h0
  · rw [hf] at hy; cases hy; exact ⟨b, cc, rfl, hr, hb⟩
theorem fnd_none {f : Option (List Int)} {e : Ending} {w' : World} (h : FndR f e w') (hf : f = none) : e = .returned (.tuple #[.slice none 0 0, .bool false]) := by
  rcases h with ⟨_, rfl⟩ | ⟨x, v, hx, _⟩
  · rfl
  · rw [hf] at hx; cases hx
theorem fnd_some {f : Option (List Int)} {x : List Int} {e : Ending} {w' : World} (h : FndR f e w') (hf : f = some x) : ∃ v, e = .returned (.tuple #[v, .bool true]) ∧ RdI w' v x := by
  rcases h with ⟨h0, _⟩ | ⟨y, v, hy, rfl, hr⟩
  · rw [hf] at h0; cases h0
  · rw [hf] at hy; cases hy; exact ⟨v, rfl, hr⟩
set_option maxHeartbeats 2000000 in
set_option maxRecDepth 100000 in
theorem law_nexts (v0 : Value) (l0 : List Int) (w : World) (hv : RdI w v0 l0) (hf : fits l0) (hcap : Cap v0) :
    Calls Try.prog 4 #[v0] w fun e w' => e = .returned (.bool true) ∧ Keeps w w' := by
  have hli := list_c v0 l0 w hv hcap
  have h17 : (l0.take 17).length ≤ 17 := by rw [List.length_take]; omega
  generalize l0.take 17 = l at *
  clear hv hf hcap
  go_enter Try.func4, Try.ntmps4
  go_wp2_with (go_at_call 7; refine hli.mono ?_; rintro e w1 ⟨A, c, rfl, hl, hb1⟩)
  clear hli
  have hro := fun X h => rorder_c (.slice A l.length c) l X (hl.below h)
  have h17I : (l.length : Int) ≤ 17 := by omega
  cases ho : ordB l with
  | false =>
    have hnx := next_no A c l l.length rfl (.inl ho) w1 hl
    rw [ho] at hro
    clear ho
    go_wp2_with fail
    refine hnx.mono ?_
    rintro e w2 ⟨rfl, hb2⟩
    go_wp2_with (first
      | (go_at_call 14; refine (hro _ hb2).mono ?_; rintro e w3 ⟨rfl, hb3⟩)
      | (go_at_call 10; refine (awake_c _).mono ?_; rintro e w4 ⟨rfl, hb4⟩))
    go_ret
    exact ⟨rfl, ((hb1.next hb2).next hb3).next hb4⟩
  | true =>
    by_cases h7 : l.length ≤ 7
    · have q1 : decide ((7 : Int) < l.length) = false := by simp; omega
      have hrn := fun X h => rnext_c l.length h7 A c l rfl X (hl.below h)
      rw [ho] at hro
      cases hF : (clrs [] l.length).find? (lowB l) with
      | none =>
        have hnx := nx_none l.length h7 A c l rfl ho hF w1 hl
        have hfn := fun e w' h => fnd_none (f := (clrs [] l.length).find? (lowB l)) (e := e) (w' := w') h hF
        clear ho hF
        generalize (clrs [] l.length).find? (lowB l) = f at *
        go_wp2_with fail
        refine hnx.mono ?_
        rintro e w2 ⟨rfl, hb2⟩
        go_wp2_with (first
          | (go_at_call 14; refine (hro _ hb2).mono ?_; rintro e w3 ⟨rfl, hb3⟩)
          | (go_at_call 15; refine (hrn _ (hb2.next hb3)).mono ?_; rintro e w4 ⟨hfd, hb4⟩; obtain rfl := hfn _ _ hfd)
          | (go_at_call 10; refine (awake_c _).mono ?_; rintro e w5 ⟨rfl, hb5⟩))
        go_ret
        exact ⟨rfl, (((hb1.next hb2).next hb3).next hb4).next hb5⟩
      | some x =>
        have hnx := nx_some l.length h7 A c l rfl ho x hF w1 hl
        have hfn := fun e w' h => fnd_some (f := (clrs [] l.length).find? (lowB l)) (x := x) (e := e) (w' := w') h hF
        clear ho hF
        generalize (clrs [] l.length).find? (lowB l) = f at *
        go_wp2_with fail
        refine hnx.mono ?_
        rintro e w2 ⟨b, cc, rfl, hx2, hb2⟩
        go_upto_region 8 with (first
          | (go_at_call 14; refine (hro _ hb2).mono ?_; rintro e w3 ⟨rfl, hb3⟩)
          | (go_at_call 15; refine (hrn _ (hb2.next hb3)).mono ?_; rintro e w4 ⟨hfd, hb4⟩; obtain ⟨v, rfl, hr⟩ := hfn _ _ hfd))
        have hin := fun X h => ints_eq (.slice (some ⟨b, 0, none⟩) l.length cc) v x X (hx2.below ((hb3.next hb4).next h)) (hr.below h)
        go_wp2_with (first
          | (go_at_call 12; refine (hin _ (Below.refl _ _)).mono ?_; rintro e w6 ⟨rfl, hb6⟩)
          | (go_at_call 10; refine (awake_c _).mono ?_; rintro e w5 ⟨rfl, hb5⟩))
        go_ret
        exact ⟨rfl, ((((hb1.next hb2).next hb3).next hb4).next hb6).next hb5⟩
    · have q1 : (7 : Int) < l.length := by omega
      have hB : cntB l.length = false := by simp [cntB]; omega
      have hnx := next_no A c l l.length rfl (.inr ⟨ho, hB⟩) w1 hl
      rw [ho] at hro
      clear ho hB
      go_wp2_with fail
      refine hnx.mono ?_
      rintro e w2 ⟨rfl, hb2⟩
      go_wp2_with (first
        | (go_at_call 14; refine (hro _ hb2).mono ?_; rintro e w3 ⟨rfl, hb3⟩)
        | (go_at_call 10; refine (awake_c _).mono ?_; rintro e w4 ⟨rfl, hb4⟩))
      go_ret
      exact ⟨rfl, ((hb1.next hb2).next hb3).next hb4⟩
end Go.Proofs.Ytdlnmmhdgjjcfaa
