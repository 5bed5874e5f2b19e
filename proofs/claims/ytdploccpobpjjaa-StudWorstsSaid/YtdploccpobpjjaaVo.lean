/- The laws' own mod; the reference's Order. -/
import Derived.Test.YtdploccpobpjjaaSl
namespace Go.Proofs.Ytdploccpobpjjaa
open Go.RowKit
set_option linter.unusedVariables false

def modN (x n : Int) : Int := (x % 18446744073709551616) % n
theorem mod_eq (x n : Int) (h1 : 1 ≤ n) (h2 : n ≤ 1000) : wrap64 ((IntKind.u64.wrap x).tmod n) = modN x n := by
  have hw : IntKind.u64.wrap x = x % 18446744073709551616 := by simp [IntKind.wrap, IntKind.signed, IntKind.bits]
  have h0 : 0 ≤ x % 18446744073709551616 := Int.emod_nonneg _ (by omega)
  have h3 : (x % 18446744073709551616).tmod n = modN x n := by rw [modN, Int.tmod_eq_emod_of_nonneg h0]
  have h4 : 0 ≤ modN x n := Int.emod_nonneg _ (by omega)
  have h5 : modN x n < n := Int.emod_lt_of_pos _ (by omega)
  rw [hw, h3]
  simp only [wrap64]
  omega
theorem modN_in (x n : Int) (h1 : 1 ≤ n) : 0 ≤ modN x n ∧ modN x n < n := ⟨Int.emod_nonneg _ (by omega), Int.emod_lt_of_pos _ (by omega)⟩
set_option maxHeartbeats 400000 in
theorem mod_c (x n : Int) (hx : (Lit.int .i64 x).wf = true) (h1 : 1 ≤ n) (h2 : n ≤ 1000) (w : World) :
    Calls Try.prog 19 #[.int .i64 x, .int .i64 n] w fun e w' => e = .returned (.int .i64 (modN x n)) ∧ w = w' := by
  go_enter Try.func19, Try.ntmps19
  go_wp2_with fail
  go_ret
  exact ⟨ret_int (mod_eq x n h1 h2), rfl⟩
theorem mod_q (x n : Int) (hx : (Lit.int .i64 x).wf = true) (h1 : 1 ≤ n) (h2 : n ≤ 1000) (w : World) :
    Calls Try.prog 19 #[.int .i64 x, .int .i64 n] w fun e w' => e = .returned (.int .i64 (modN x n)) ∧ w' = w :=
  (mod_c x n hx h1 h2 w).mono fun _ _ ⟨h, k⟩ => ⟨h, k.symm⟩

set_option maxHeartbeats 2000000 in
set_option maxRecDepth 100000 in
theorem rrows_c (v : Value) (l : List Int) (n : Int) (w : World) (hv : RdI w v l) :
    Calls Try.prog 27 #[v, .int .i64 n] w fun e w' => e = .returned (.bool (rowsB n l)) ∧ ∃ m, w' = w.drewN m := by
  obtain ⟨A, c, rfl, hm, hcs⟩ := id hv
  unfold maxLen at hm
  go_enter Try.func27, Try.ntmps27
  go_wp2_with fail
  go_loopw [5] (fun i wr => ∃ k : Nat, k ≤ l.length ∧ i = .int .i64 k ∧ (l.take k).all (hasB n) = true ∧ (l.take k).Nodup ∧ ∃ m, wr = w.drewN m) (fun i _ => l.length - (intOf i).toNat)
  case atStart => exact ⟨0, Nat.zero_le _, rfl, rfl, by simp, 0, rfl⟩
  case round =>
    obtain ⟨k, hk, rfl, hall, hnd, m, rfl⟩ := hrel
    have Hall := Lib.hid hall
    have Hnd := Lib.hid hnd
    clear hall hnd
    by_cases hlt : k < l.length
    · obtain ⟨b, off, u, rfl, hcell, rfl⟩ := hcs k hlt
      by_cases hh : hasB n (nth l k) = true
      · obtain ⟨hx0, hx1⟩ := (hasB_iff _ _).1 hh
        have Hh := Lib.hid hh
        clear hh
        have d1 : decide (nth l k < 0) = false := by simp; omega
        have d2 : decide (n ≤ nth l k) = false := by simp; omega
        go_wp2_with fail
        go_loopw [6] (fun i wr => ∃ j : Nat, j ≤ k ∧ i = .int .i64 j ∧ (∀ a, a < j → nth l a ≠ nth l k) ∧ ∃ m, wr = w.drewN m) (fun i _ => l.length - (intOf i).toNat)
        case atStart => exact ⟨0, Nat.zero_le _, rfl, fun a ha => by omega, m, rfl⟩
        case round =>
          obtain ⟨j, hj, rfl, hno, m2, rfl⟩ := hrel
          have Hno := Lib.hid hno
          clear hno
          by_cases hjt : j < k
          · obtain ⟨b2, off2, u2, hA2, hcell2, rfl⟩ := hcs j (by omega)
            cases hA2
            have hjl : j < l.length := by omega
            clear hcs hv
            by_cases hx : nth l j = nth l k
            · have hxn : (nth l j == nth l k) = true := by simp [hx]
              have Hx := Lib.hid hx
              clear hx
              go_wp2_with fail
              go_quiet (fail)
              go_wp2_with fail
              go_ret
              refine ⟨ret_bool (rowsB_twice _ _ k hlt ?_).symm, m2 + nq, by first | rfl | exact World.drewN_drewN _ _ _⟩
              rw [← Hx.out]
              have : nth l j = (l.take k)[j]'(by simp; omega) := by simp [nth, List.getElem?_eq_getElem hjl]
              rw [this]; exact List.getElem_mem _
            · have hxn : (nth l j == nth l k) = false := by simp [hx]
              have Hx := Lib.hid hx
              clear hx
              go_wp2_with fail
              go_quiet (fail)
              go_wp2_with fail
              go_roundw
              case rel => exact ⟨j + 1, by omega, by go_num, fun a ha => (by
                by_cases h : a < j
                · exact Hno.out a h
                · obtain rfl : a = j := by omega
                  exact Hx.out), m2 + nq, by first | rfl | exact World.drewN_drewN _ _ _⟩
              case measure => simp [intOf]; omega
          · have hje : j = k := by omega
            have hin : nth l k ∉ l.take k := by
              intro h
              obtain ⟨a, ha, e⟩ := List.getElem_of_mem h
              have ha' : a < k := by simp at ha; omega
              refine Hno.out a (by omega) ?_
              rw [← e]
              simp [nth, List.getElem?_eq_getElem (show a < l.length by omega)]
            have Hin := Lib.hid hin
            clear hin hje
            have hjd : decide (j < k) = false := by simp; omega
            go_wp2_with fail
            go_roundw
            case rel => exact ⟨k + 1, by omega, by go_num, all_nth' _ _ k hlt Hall.out Hh.out, nodup_nth' _ k hlt Hnd.out Hin.out, m2, rfl⟩
            case measure => simp [intOf]; omega
      · have hh' : hasB n (nth l k) = false := by simpa using hh
        have hor : nth l k < 0 ∨ n ≤ nth l k := by simp [hasB] at hh'; omega
        have Hh := Lib.hid hh'
        clear hh hh'
        by_cases h0 : nth l k < 0
        · clear hor
          go_wp2_with fail
          go_ret
          exact ⟨ret_bool (rowsB_has _ _ k hlt Hh.out).symm, m, rfl⟩
        · have h1 : n ≤ nth l k := by omega
          have d1 : decide (nth l k < 0) = false := by simpa using h0
          clear hor
          go_wp2_with fail
          go_ret
          exact ⟨ret_bool (rowsB_has _ _ k hlt Hh.out).symm, m, rfl⟩
    · have hall := Hall.out
      have hnd := Hnd.out
      rw [List.take_of_length_le (by omega)] at hall hnd
      have HA := Lib.hid hall
      have HN := Lib.hid hnd
      clear hall hnd
      go_wp2_with fail
      go_ret
      exact ⟨ret_bool (rowsB_yes _ _ HA.out HN.out).symm, m, rfl⟩
set_option maxHeartbeats 1000000 in
theorem rorder_c (v : Value) (l : List Int) (w : World) (hv : RdI w v l) :
    Calls Try.prog 13 #[v] w fun e w' => e = .returned (.bool (ordB l)) ∧ Keeps w w' := by
  obtain ⟨A, c, rfl, hm, hcs⟩ := id hv
  unfold maxLen at hm
  by_cases h1 : 1 ≤ l.length
  · by_cases h16 : l.length ≤ 16
    · have har := rrows_c _ l l.length w hv
      have he : ordB l = rowsB l.length l := by simp [ordB, h1, h16]
      rw [he]
      generalize rowsB (l.length : Int) l = B at *
      have q1 : (1 : Int) ≤ l.length := by omega
      have q2 : (l.length : Int) ≤ 16 := by omega
      clear he hcs
      go_enter Try.func13, Try.ntmps13
      go_wp2_with (go_at_call 27; refine har.mono ?_; rintro e w1 ⟨rfl, m, rfl⟩)
      go_ret
      exact ⟨rfl, below_drewN (Below.refl _ _)⟩
    · have he : ordB l = false := by simp [ordB, h16]
      rw [he]
      have q1 : (1 : Int) ≤ l.length := by omega
      have q2 : decide ((l.length : Int) ≤ 16) = false := by simp; omega
      clear he hcs
      go_enter Try.func13, Try.ntmps13
      go_wp2_with fail
      go_ret
      exact ⟨rfl, Below.refl _ _⟩
  · have he : ordB l = false := by simp [ordB, h1]
    rw [he]
    have q1 : decide ((1 : Int) ≤ l.length) = false := by simp; omega
    have q3 : decide (1 ≤ l.length) = false := decide_eq_false h1
    clear he hcs
    go_enter Try.func13, Try.ntmps13
    go_wp2_with fail
    go_ret
    exact ⟨rfl, Below.refl _ _⟩
end Go.Proofs.Ytdploccpobpjjaa
