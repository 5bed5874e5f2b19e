/- The walks of the reference's Next, Complete and Start. -/
import Derived.Test.YtdlnmmhdgjjcfaaWe
import Derived.Test.YtdlnmmhdgjjcfaaWd
namespace Go.Proofs.Ytdlnmmhdgjjcfaa
open Go.RowKit Go.Shelf
set_option linter.unusedVariables false
set_option linter.unusedSimpArgs false

/-- What the reference's Next and Complete answer. -/
def FndR (f : Option (List Int)) (e : Ending) (w' : World) : Prop :=
  (f = none ∧ e = .returned (.tuple #[.slice none 0 0, .bool false])) ∨ (∃ x v, f = some x ∧ e = .returned (.tuple #[v, .bool true]) ∧ RdI w' v x)
set_option maxHeartbeats 2000000 in
set_option maxRecDepth 100000 in
theorem rnext_c (d : Nat) (d7 : d ≤ 7) (A : Option Addr) (c : Nat) (l : List Int) (hll : l.length = d) (w : World) (hv : RdI w (.slice A d c) l) :
    Calls Try.prog 15 #[.slice A d c] w fun e w' => FndR ((clrs [] d).find? (lowB l)) e w' ∧ Keeps w w' := by
  have hal := fun x => all_lvl d d7 x
  rw [lvl_all d] at hal
  have hxl := Lib.hid (fun x (h : x ∈ clrs [] d) => clrs_len (Nat.zero_le _) h)
  have hlen := clrs_length [] d d7
  generalize clrs [] d = xs at *
  go_enter Try.func15, Try.ntmps15
  go_wp2_with (go_at_call 18; refine (hal _).mono ?_; rintro e w1 ⟨v, rfl, hrd, hb⟩; obtain ⟨A1, c1, rfl, hm1, hcs⟩ := id hrd)
  unfold maxLen at hm1
  have hlenI : (xs.length : Int) ≤ 823543 := by omega
  go_loopw [5] (fun i wr => ∃ q : Nat, q ≤ xs.length ∧ i = .int .i64 q ∧ (∀ j y, j < q → xs[j]? = some y → lowB l y = false) ∧ ∃ m, wr = w1.drewN m) (fun i _ => xs.length - (intOf i).toNat)
  case atStart => exact ⟨0, Nat.zero_le _, rfl, fun j y h => by omega, 0, rfl⟩
  case round =>
    obtain ⟨q, hq, rfl, hno, m, rfl⟩ := hrel
    have Hno := Lib.hid hno
    clear hno
    by_cases hqt : q < xs.length
    · obtain ⟨b, off, u, rfl, hc, x, hx, hru⟩ := hcs q hqt
      have hxd := hxl.out x (List.mem_of_getElem? hx)
      have hbf := before_c (.slice A d c) u l x d hll hxd (w1.drewN m) (hv.below (below_drewN hb)) (hru.below (below_drewN (Below.refl _ _)))
      have Hx := Lib.hid hx
      clear hcs hx
      by_cases hlo : lowB l x = true
      · rw [hlo] at hbf
        have Hlo := Lib.hid hlo
        clear hlo
        go_wp2_with (go_at_call 21; refine hbf.mono ?_; rintro e w2 ⟨rfl, m2, rfl⟩)
        go_ret2
        exact ⟨.inr ⟨x, u, find_atq Hx.out Hlo.out Hno.out, rfl, hru.below (below_drewN (Below.refl _ _))⟩, below_drewN hb⟩
      · have hlo' : lowB l x = false := by simpa using hlo
        rw [hlo'] at hbf
        have Hlo := Lib.hid hlo'
        clear hlo hlo'
        go_wp2_with (go_at_call 21; refine hbf.mono ?_; rintro e w2 ⟨rfl, m2, rfl⟩)
        go_roundw
        case rel => exact ⟨q + 1, by omega, by go_num, fun j y hj hy => (by
          by_cases h : j < q
          · exact Hno.out j y h hy
          · obtain rfl : j = q := by omega
            rw [Hx.out] at hy
            cases hy
            exact Hlo.out), m + m2, by first | rfl | exact World.drewN_drewN _ _ _⟩
        case measure => simp [intOf]; omega
    · obtain rfl : q = xs.length := by omega
      clear hcs
      go_wp2_with fail
      go_ret2
      exact ⟨.inl ⟨find_non Hno.out, rfl⟩, below_drewN hb⟩
/-- The first numbers of two lists are the same. -/
def pB (x s : List Int) (j : Nat) : Bool := (List.range j).all fun k => nth x k == nth s k
theorem pB_yes {x s : List Int} {j : Nat} (h : pB x s j = true) (e : nth x j = nth s j) : pB x s (j + 1) = true := by
  unfold pB at h ⊢
  rw [List.range_succ, List.all_append, h]
  simp [e]
theorem pB_no {x s : List Int} {j : Nat} (e : nth x j ≠ nth s j) : pB x s (j + 1) = false := by
  unfold pB
  rw [List.range_succ, List.all_append]
  simp [e]
theorem pB_no' {x s : List Int} {j : Nat} (h : pB x s j = false) : pB x s (j + 1) = false := by
  unfold pB at h ⊢
  rw [List.range_succ, List.all_append, h]
  rfl
theorem pB_all {x s : List Int} (h : s.length ≤ x.length) : pB x s s.length = decide (x.take s.length = s) := by
  rw [Bool.eq_iff_iff, decide_eq_true_eq]
  unfold pB
  simp only [List.all_eq_true, List.mem_range, beq_iff_eq]
  constructor
  · intro hk
    refine nth_ext' _ _ (by rw [List.length_take]; omega) fun k hk' => ?_
    rw [List.length_take] at hk'
    rw [← hk k (by omega)]
    exact nth_take _ _ _ (by omega)
  · intro e k hk
    exact nth_of_take e hk
set_option maxHeartbeats 2000000 in
set_option maxRecDepth 100000 in
theorem rcomplete_c (d : Nat) (d7 : d ≤ 7) (A : Option Addr) (c n : Nat) (s : List Int) (hn : s.length = n) (hsd : n ≤ d) (w : World) (hv : RdI w (.slice A n c) s) :
    Calls Try.prog 11 #[.slice A n c, .int .i64 d] w fun e w' => FndR ((clrs [] d).find? (fun x => decide (x.take s.length = s))) e w' ∧ Keeps w w' := by
  have hal := fun x => all_lvl d d7 x
  rw [lvl_all d] at hal
  have hxl := Lib.hid (fun x (h : x ∈ clrs [] d) => clrs_len (Nat.zero_le _) h)
  have hlen := clrs_length [] d d7
  generalize clrs [] d = xs at *
  subst hn
  obtain ⟨_, _, he, hms, hcs0⟩ := id hv
  cases he
  unfold maxLen at hms
  go_enter Try.func11, Try.ntmps11
  go_wp2_with (go_at_call 18; refine (hal _).mono ?_; rintro e w1 ⟨v, rfl, hrd, hb⟩; obtain ⟨A1, c1, rfl, hm1, hcs⟩ := id hrd)
  unfold maxLen at hm1
  have hlenI : (xs.length : Int) ≤ 823543 := by omega
  go_loopw [7] (fun i wr => ∃ q : Nat, q ≤ xs.length ∧ i = .int .i64 q ∧ (∀ j y, j < q → xs[j]? = some y → decide (y.take s.length = s) = false) ∧ ∃ m, wr = w1.drewN m) (fun i _ => xs.length - (intOf i).toNat)
  case atStart => exact ⟨0, Nat.zero_le _, rfl, fun j y h => by omega, 0, rfl⟩
  case round =>
    obtain ⟨q, hq, rfl, hno, m, rfl⟩ := hrel
    have Hno := Lib.hid hno
    clear hno
    by_cases hqt : q < xs.length
    · obtain ⟨b, off, u, rfl, hc, x, hx, hru⟩ := hcs q hqt
      have hxd := hxl.out x (List.mem_of_getElem? hx)
      obtain ⟨A2, c2, rfl, hm2, hcs2⟩ := id hru
      rw [hxd] at hm2 hcs2 hc hru
      have Hx := Lib.hid hx
      have Hru := Lib.hid hru
      have Hxd := Lib.hid hxd
      clear hcs hx hru hxd hm2
      go_wp2_with fail
      go_loopw [8, 9] (fun t i wr => ∃ j : Nat, j ≤ s.length ∧ i = .int .i64 j ∧ t = .bool (pB x s j) ∧ ∃ m, wr = w1.drewN m) (fun _ i _ => s.length - (intOf i).toNat)
      case atStart => exact ⟨0, Nat.zero_le _, rfl, rfl, m, rfl⟩
      case round =>
        obtain ⟨j, hj, rfl, rfl, m3, rfl⟩ := hrel
        by_cases hjt : j < s.length
        · obtain ⟨b5, off5, _, rfl, hc5, rfl⟩ := hcs2 j (by omega)
          obtain ⟨b6, off6, _, rfl, hc6', rfl⟩ := hcs0 j hjt
          have hc6 := cell_keep hc6' hb
          have hjd : j < d := by omega
          clear hcs2 hcs0 hc6' hv
          cases hp : pB x s j with
          | false =>
            have Hp := Lib.hid hp
            clear hp
            go_wp2_with fail
            go_quiet (fail)
            go_wp2_with fail
            go_roundw
            case rel => exact ⟨j + 1, by omega, by go_num, by rw [pB_no' Hp.out], m3 + nq, by first | rfl | exact World.drewN_drewN _ _ _⟩
            case measure => simp [intOf]; omega
          | true =>
            have Hp := Lib.hid hp
            clear hp
            by_cases he : nth x j = nth s j
            · have hE : (nth x j == nth s j) = true := by simp [he]
              have He := Lib.hid (pB_yes Hp.out he)
              clear he
              generalize nth x j = y1 at *
              generalize nth s j = y2 at *
              go_wp2_with fail
              go_quiet (fail)
              go_wp2_with fail
              go_roundw
              case rel => exact ⟨j + 1, by omega, by go_num, by rw [He.out], m3 + nq, by first | rfl | exact World.drewN_drewN _ _ _⟩
              case measure => simp [intOf]; omega
            · have hE : (nth x j == nth s j) = false := by simp [he]
              have He := Lib.hid (pB_no he)
              clear he
              generalize nth x j = y1 at *
              generalize nth s j = y2 at *
              go_wp2_with fail
              go_quiet (fail)
              go_wp2_with fail
              go_roundw
              case rel => exact ⟨j + 1, by omega, by go_num, by rw [He.out], m3 + nq, by first | rfl | exact World.drewN_drewN _ _ _⟩
              case measure => simp [intOf]; omega
        · obtain rfl : j = s.length := by omega
          have hpa : pB x s s.length = decide (x.take s.length = s) := pB_all (by rw [Hxd.out]; exact hsd)
          rw [hpa]
          by_cases ht : x.take s.length = s
          · have Ht := Lib.hid (decide_eq_true ht)
            rw [decide_eq_true ht]
            clear ht hpa hcs2 hcs0
            go_wp2_with fail
            go_ret2
            exact ⟨.inr ⟨x, _, find_atq (p := fun y : List Int => decide (y.take s.length = s)) Hx.out Ht.out Hno.out, rfl, Hru.out.below (below_drewN (Below.refl _ _))⟩, below_drewN hb⟩
          · have Ht := Lib.hid (decide_eq_false ht)
            rw [decide_eq_false ht]
            clear ht hpa hcs2 hcs0
            go_wp2_with fail
            go_roundw
            case rel => exact ⟨q + 1, by omega, by go_num, fun j y hj hy => (by
              by_cases h : j < q
              · exact Hno.out j y h hy
              · obtain rfl : j = q := by omega
                rw [Hx.out] at hy
                cases hy
                exact Ht.out), m3, rfl⟩
            case measure => simp [intOf]; omega
    · obtain rfl : q = xs.length := by omega
      clear hcs
      go_wp2_with fail
      go_ret2
      exact ⟨.inl ⟨find_non (p := fun y : List Int => decide (y.take s.length = s)) Hno.out, rfl⟩, below_drewN hb⟩
def startB (l : List Int) (n : Int) : Bool := decide ((l.length : Int) ≤ n) && rowsB n l
set_option maxHeartbeats 1000000 in
theorem rstart_c (v : Value) (l : List Int) (n : Int) (w : World) (hv : RdI w v l) :
    Calls Try.prog 9 #[v, .int .i64 n] w fun e w' => e = .returned (.bool (startB l n)) ∧ Keeps w w' := by
  obtain ⟨A, c, rfl, hm, hcs⟩ := id hv
  unfold maxLen at hm
  by_cases h1 : (l.length : Int) ≤ n
  · have har := rrows_c _ l n w hv
    have he : startB l n = rowsB n l := by unfold startB; rw [decide_eq_true h1, Bool.true_and]
    rw [he]
    generalize rowsB n l = B at *
    clear he hcs
    go_enter Try.func9, Try.ntmps9
    go_wp2_with (go_at_call 26; refine har.mono ?_; rintro e w1 ⟨rfl, m, rfl⟩)
    go_ret
    exact ⟨rfl, below_drewN (Below.refl _ _)⟩
  · have he : startB l n = false := by unfold startB; rw [decide_eq_false h1, Bool.false_and]
    have hd := decide_eq_false h1
    rw [he]
    clear he hcs h1
    go_enter Try.func9, Try.ntmps9
    go_wp2_with fail
    go_ret
    exact ⟨rfl, Below.refl _ _⟩
end Go.Proofs.Ytdlnmmhdgjjcfaa
