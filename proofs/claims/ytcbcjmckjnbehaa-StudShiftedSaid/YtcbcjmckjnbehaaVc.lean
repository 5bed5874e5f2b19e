/- The laws' own helpers: mod, prime; the reference's Order. -/
import Derived.Test.YtcbcjmckjnbehaaSl
import Derived.Test.YtcbcjmckjnbehaaRb
import Derived.Test.YtcbcjmckjnbehaaVb
namespace Go.Proofs.Ytcbcjmckjnbehaa
open Go.RowKit
set_option linter.unusedVariables false

def modN (x n : Int) : Int := (x % 18446744073709551616) % n
theorem mod_eq (x n : Int) (h1 : 1 ≤ n) (h2 : n ≤ 1000) : wrap64 ((IntKind.u64.wrap x).tmod n) = modN x n := by
  have hw : IntKind.u64.wrap x = x % 18446744073709551616 := by simp [IntKind.wrap, IntKind.signed, IntKind.bits]
  have h0 : 0 ≤ x % 18446744073709551616 := Int.emod_nonneg _ (by omega)
  have h3 : (x % 18446744073709551616).tmod n = modN x n := by rw [modN, Int.tmod_eq_emod_of_nonneg h0]
  have h4 : 0 ≤ modN x n := Int.emod_nonneg _ (by omega)
  have h5 : modN x n < n := Int.emod_lt_of_pos _ (by omega)
  rw [hw, h3]
  simp only [wrap64]
  omega
theorem modN_in (x n : Int) (h1 : 1 ≤ n) : 0 ≤ modN x n ∧ modN x n < n := ⟨Int.emod_nonneg _ (by omega), Int.emod_lt_of_pos _ (by omega)⟩
set_option maxHeartbeats 400000 in
theorem mod_c (x n : Int) (hx : (Lit.int .i64 x).wf = true) (h1 : 1 ≤ n) (h2 : n ≤ 1000) (w : World) :
    Calls Try.prog 20 #[.int .i64 x, .int .i64 n] w fun e w' => e = .returned (.int .i64 (modN x n)) ∧ w = w' := by
  go_enter Try.func20, Try.ntmps20
  go_wp2_with fail
  go_ret
  exact ⟨ret_int (mod_eq x n h1 h2), rfl⟩
theorem mod_q (x n : Int) (hx : (Lit.int .i64 x).wf = true) (h1 : 1 ≤ n) (h2 : n ≤ 1000) (w : World) :
    Calls Try.prog 20 #[.int .i64 x, .int .i64 n] w fun e w' => e = .returned (.int .i64 (modN x n)) ∧ w' = w :=
  (mod_c x n hx h1 h2 w).mono fun _ _ ⟨h, k⟩ => ⟨h, k.symm⟩

/-- The prime of a number below 6. -/
def prm (m : Nat) : Nat := [3, 5, 7, 11, 13, 17].getD m 3
theorem prm_ok (m : Nat) (h : m < 6) : primeB (prm m) = true ∧ 0 < (rts (prm m) (prm m)).length := by
  have : m = 0 ∨ m = 1 ∨ m = 2 ∨ m = 3 ∨ m = 4 ∨ m = 5 := by omega
  rcases this with rfl | rfl | rfl | rfl | rfl | rfl <;> decide +kernel
theorem ix_0 (w : World) : (Instr.index 55 (.agg #[.int .i64 3, .int .i64 5, .int .i64 7, .int .i64 11, .int .i64 13, .int .i64 17]) (.int .i64 0)).run Try.prog w = .ok (.int .i64 3) w := by kernel_rfl
theorem ix_1 (w : World) : (Instr.index 55 (.agg #[.int .i64 3, .int .i64 5, .int .i64 7, .int .i64 11, .int .i64 13, .int .i64 17]) (.int .i64 1)).run Try.prog w = .ok (.int .i64 5) w := by kernel_rfl
theorem ix_2 (w : World) : (Instr.index 55 (.agg #[.int .i64 3, .int .i64 5, .int .i64 7, .int .i64 11, .int .i64 13, .int .i64 17]) (.int .i64 2)).run Try.prog w = .ok (.int .i64 7) w := by kernel_rfl
theorem ix_3 (w : World) : (Instr.index 55 (.agg #[.int .i64 3, .int .i64 5, .int .i64 7, .int .i64 11, .int .i64 13, .int .i64 17]) (.int .i64 3)).run Try.prog w = .ok (.int .i64 11) w := by kernel_rfl
theorem ix_4 (w : World) : (Instr.index 55 (.agg #[.int .i64 3, .int .i64 5, .int .i64 7, .int .i64 11, .int .i64 13, .int .i64 17]) (.int .i64 4)).run Try.prog w = .ok (.int .i64 13) w := by kernel_rfl
theorem ix_5 (w : World) : (Instr.index 55 (.agg #[.int .i64 3, .int .i64 5, .int .i64 7, .int .i64 11, .int .i64 13, .int .i64 17]) (.int .i64 5)).run Try.prog w = .ok (.int .i64 17) w := by kernel_rfl
theorem ix_prm (m : Nat) (h : m < 6) (w : World) : (Instr.index 55 (.agg #[.int .i64 3, .int .i64 5, .int .i64 7, .int .i64 11, .int .i64 13, .int .i64 17]) (.int .i64 m)).run Try.prog w = .ok (.int .i64 (prm m)) w := by
  have : m = 0 ∨ m = 1 ∨ m = 2 ∨ m = 3 ∨ m = 4 ∨ m = 5 := by omega
  rcases this with rfl | rfl | rfl | rfl | rfl | rfl
  · exact ix_0 w
  · exact ix_1 w
  · exact ix_2 w
  · exact ix_3 w
  · exact ix_4 w
  · exact ix_5 w
theorem rts_mem (p : Nat) (x : Int) (h : x ∈ rts p p) : ∃ g : Nat, x = g ∧ rootB p g = true ∧ g < p := by
  simp only [rts, List.mem_map, List.mem_filter, List.mem_range] at h
  obtain ⟨g, ⟨h1, h2⟩, rfl⟩ := h
  exact ⟨g, rfl, h2, h1⟩
/-- A prime and two of its roots. -/
def Primes (w : World) (e : Ending) (w' : World) : Prop := ∃ P G H : Nat, e = .returned (.tuple #[.int .i64 P, .int .i64 G, .int .i64 H]) ∧ primeB P = true ∧ rootB P G = true ∧ rootB P H = true ∧ Keeps w w'
set_option maxHeartbeats 2000000 in
set_option maxRecDepth 100000 in
theorem prime_c (p g h : Int) (hp : (Lit.int .i64 p).wf = true) (hg : (Lit.int .i64 g).wf = true) (hh : (Lit.int .i64 h).wf = true) (w : World) :
    Calls Try.prog 19 #[.int .i64 p, .int .i64 g, .int .i64 h] w (Primes w) := by
  have hmod := fun x => mod_c p 6 hp (by omega) (by omega) x
  obtain ⟨m0, m1⟩ := modN_in p 6 (by omega)
  generalize modN p 6 = mi at *
  obtain ⟨m, rfl⟩ := Int.eq_ofNat_of_zero_le m0
  have hm6 : m < 6 := by omega
  obtain ⟨hP, hlen⟩ := prm_ok m hm6
  have hix := ix_prm m hm6
  have hrr := fun x => rroots_c (prm m) hP x
  have hP17 : 3 ≤ prm m ∧ prm m ≤ 17 := by simp [primeB] at hP; omega
  have hl17 := rts_length (prm m) (prm m)
  have Hmem := Lib.hid (rts_mem (prm m))
  generalize prm m = P at *
  generalize rts P P = L at *
  have hmg := fun x => mod_q g L.length hg (by omega) (by omega) x
  have hmh := fun x => mod_q h L.length hh (by omega) (by omega) x
  obtain ⟨g0, g1⟩ := modN_in g L.length (by omega)
  obtain ⟨h0, h1⟩ := modN_in h L.length (by omega)
  generalize modN g L.length = gi at *
  generalize modN h L.length = hi at *
  obtain ⟨gn, rfl⟩ := Int.eq_ofNat_of_zero_le g0
  obtain ⟨hn, rfl⟩ := Int.eq_ofNat_of_zero_le h0
  have hgn : gn < L.length := by omega
  have hhn : hn < L.length := by omega
  have HP := Lib.hid hP
  clear hP hp hg hh m0 m1 hP17
  go_enter Try.func19, Try.ntmps19
  go_wp2_with fail
  refine (hmod _).mono ?_
  rintro e w1 ⟨rfl, rfl⟩
  go_wp2_with fail
  refine (hrr _).mono ?_
  rintro e w2 ⟨u, rfl, hu, hb2⟩
  obtain ⟨Au, cu, rfl, hmu, hcu⟩ := id hu
  obtain ⟨b1, o1, u1, hA1, c1, rfl⟩ := hcu gn hgn
  obtain ⟨b2, o2, u2, hA2, c2, rfl⟩ := hcu hn hhn
  subst hA1
  cases hA2
  clear hcu hmod hrr hix hu
  unfold maxLen at hmu
  have q1 : (gn : Int) < L.length := by omega
  have q2 : (hn : Int) < L.length := by omega
  have q3 : 0 ≤ (gn : Int) := by omega
  have q4 : 0 ≤ (hn : Int) := by omega
  go_wp2_with fail
  refine wp_region_quiet_lit (by kernel_rfl) (by kernel_rfl) ?_
  iterate 5 go_big_quiet_step (fail)
  go_big_quiet_step ((go_at_call 20; exact Calls.quiet_of_same (hmg _)))
  iterate 6 go_big_quiet_step (fail)
  go_big_quiet_step ((go_at_call 20; exact Calls.quiet_of_same (hmh _)))
  iterate 5 go_big_quiet_step (fail)
  refine wpQuiet_nil ?_
  intro _ hw'
  obtain ⟨nq, hw''⟩ := hw'
  subst hw''
  go_wp2_with fail
  obtain ⟨G, hG, hG2, -⟩ := Hmem.out _ (nth_mem L gn hgn)
  obtain ⟨H, hH, hH2, -⟩ := Hmem.out _ (nth_mem L hn hhn)
  go_ret3
  exact ⟨P, G, H, by rw [← hG, ← hH]; rfl, HP.out, hG2, hH2, below_drewN hb2⟩

set_option maxHeartbeats 2000000 in
set_option maxRecDepth 100000 in
theorem rrows_c (v : Value) (l : List Int) (n : Int) (w : World) (hv : RdI w v l) :
    Calls Try.prog 33 #[v, .int .i64 n] w fun e w' => e = .returned (.bool (rowsB n l)) ∧ ∃ m, w' = w.drewN m := by
  obtain ⟨A, c, rfl, hm, hcs⟩ := id hv
  unfold maxLen at hm
  go_enter Try.func33, Try.ntmps33
  go_wp2_with fail
  go_loopw [5] (fun i wr => ∃ k : Nat, k ≤ l.length ∧ i = .int .i64 k ∧ (l.take k).all (hasB n) = true ∧ (l.take k).Nodup ∧ ∃ m, wr = w.drewN m) (fun i _ => l.length - (intOf i).toNat)
  case atStart => exact ⟨0, Nat.zero_le _, rfl, rfl, by simp, 0, rfl⟩
  case round =>
    obtain ⟨k, hk, rfl, hall, hnd, m, rfl⟩ := hrel
    have Hall := Lib.hid hall
    have Hnd := Lib.hid hnd
    clear hall hnd
    by_cases hlt : k < l.length
    · obtain ⟨b, off, u, rfl, hcell, rfl⟩ := hcs k hlt
      by_cases hh : hasB n (nth l k) = true
      · obtain ⟨hx0, hx1⟩ := (hasB_iff _ _).1 hh
        have Hh := Lib.hid hh
        clear hh
        have d1 : decide (nth l k < 0) = false := by simp; omega
        have d2 : decide (n ≤ nth l k) = false := by simp; omega
        go_wp2_with fail
        go_loopw [6] (fun i wr => ∃ j : Nat, j ≤ k ∧ i = .int .i64 j ∧ (∀ a, a < j → nth l a ≠ nth l k) ∧ ∃ m, wr = w.drewN m) (fun i _ => l.length - (intOf i).toNat)
        case atStart => exact ⟨0, Nat.zero_le _, rfl, fun a ha => by omega, m, rfl⟩
        case round =>
          obtain ⟨j, hj, rfl, hno, m2, rfl⟩ := hrel
          have Hno := Lib.hid hno
          clear hno
          by_cases hjt : j < k
          · obtain ⟨b2, off2, u2, hA2, hcell2, rfl⟩ := hcs j (by omega)
            cases hA2
            have hjl : j < l.length := by omega
            clear hcs hv
            by_cases hx : nth l j = nth l k
            · have hxn : (nth l j == nth l k) = true := by simp [hx]
              have Hx := Lib.hid hx
              clear hx
              go_wp2_with fail
              go_quiet (fail)
              go_wp2_with fail
              go_ret
              refine ⟨ret_bool (rowsB_twice _ _ k hlt ?_).symm, m2 + nq, by first | rfl | exact World.drewN_drewN _ _ _⟩
              rw [← Hx.out]
              have : nth l j = (l.take k)[j]'(by simp; omega) := by simp [nth, List.getElem?_eq_getElem hjl]
              rw [this]; exact List.getElem_mem _
            · have hxn : (nth l j == nth l k) = false := by simp [hx]
              have Hx := Lib.hid hx
              clear hx
              go_wp2_with fail
              go_quiet (fail)
              go_wp2_with fail
              go_roundw
              case rel => exact ⟨j + 1, by omega, by go_num, fun a ha => (by
                by_cases h : a < j
                · exact Hno.out a h
                · obtain rfl : a = j := by omega
                  exact Hx.out), m2 + nq, by first | rfl | exact World.drewN_drewN _ _ _⟩
              case measure => simp [intOf]; omega
          · have hje : j = k := by omega
            have hin : nth l k ∉ l.take k := by
              intro h
              obtain ⟨a, ha, e⟩ := List.getElem_of_mem h
              have ha' : a < k := by simp at ha; omega
              refine Hno.out a (by omega) ?_
              rw [← e]
              simp [nth, List.getElem?_eq_getElem (show a < l.length by omega)]
            have Hin := Lib.hid hin
            clear hin hje
            have hjd : decide (j < k) = false := by simp; omega
            go_wp2_with fail
            go_roundw
            case rel => exact ⟨k + 1, by omega, by go_num, all_nth' _ _ k hlt Hall.out Hh.out, nodup_nth' _ k hlt Hnd.out Hin.out, m2, rfl⟩
            case measure => simp [intOf]; omega
      · have hh' : hasB n (nth l k) = false := by simpa using hh
        have hor : nth l k < 0 ∨ n ≤ nth l k := by simp [hasB] at hh'; omega
        have Hh := Lib.hid hh'
        clear hh hh'
        by_cases h0 : nth l k < 0
        · clear hor
          go_wp2_with fail
          go_ret
          exact ⟨ret_bool (rowsB_has _ _ k hlt Hh.out).symm, m, rfl⟩
        · have h1 : n ≤ nth l k := by omega
          have d1 : decide (nth l k < 0) = false := by simpa using h0
          clear hor
          go_wp2_with fail
          go_ret
          exact ⟨ret_bool (rowsB_has _ _ k hlt Hh.out).symm, m, rfl⟩
    · have hall := Hall.out
      have hnd := Hnd.out
      rw [List.take_of_length_le (by omega)] at hall hnd
      have HA := Lib.hid hall
      have HN := Lib.hid hnd
      clear hall hnd
      go_wp2_with fail
      go_ret
      exact ⟨ret_bool (rowsB_yes _ _ HA.out HN.out).symm, m, rfl⟩
set_option maxHeartbeats 1000000 in
theorem rorder_c (v : Value) (l : List Int) (w : World) (hv : RdI w v l) :
    Calls Try.prog 21 #[v] w fun e w' => e = .returned (.bool (ordB l)) ∧ Keeps w w' := by
  obtain ⟨A, c, rfl, hm, hcs⟩ := id hv
  unfold maxLen at hm
  by_cases h1 : 1 ≤ l.length
  · by_cases h16 : l.length ≤ 16
    · have har := rrows_c _ l l.length w hv
      have he : ordB l = rowsB l.length l := by simp [ordB, h1, h16]
      rw [he]
      generalize rowsB (l.length : Int) l = B at *
      have q1 : (1 : Int) ≤ l.length := by omega
      have q2 : (l.length : Int) ≤ 16 := by omega
      clear he hcs
      go_enter Try.func21, Try.ntmps21
      go_wp2_with (go_at_call 33; refine har.mono ?_; rintro e w1 ⟨rfl, m, rfl⟩)
      go_ret
      exact ⟨rfl, below_drewN (Below.refl _ _)⟩
    · have he : ordB l = false := by simp [ordB, h16]
      rw [he]
      have q1 : (1 : Int) ≤ l.length := by omega
      have q2 : decide ((l.length : Int) ≤ 16) = false := by simp; omega
      clear he hcs
      go_enter Try.func21, Try.ntmps21
      go_wp2_with fail
      go_ret
      exact ⟨rfl, Below.refl _ _⟩
  · have he : ordB l = false := by simp [ordB, h1]
    rw [he]
    have q1 : decide ((1 : Int) ≤ l.length) = false := by simp; omega
    have q3 : decide (1 ≤ l.length) = false := decide_eq_false h1
    clear he hcs
    go_enter Try.func21, Try.ntmps21
    go_wp2_with fail
    go_ret
    exact ⟨rfl, Below.refl _ _⟩
end Go.Proofs.Ytcbcjmckjnbehaa
