/- The laws' own prime. -/
import Derived.Test.YtodopdfjjgpdeaaVo
import Derived.Test.YtodopdfjjgpdeaaRb
import Derived.Test.YtodopdfjjgpdeaaVb
namespace Go.Proofs.Ytodopdfjjgpdeaa
open Go.RowKit
set_option linter.unusedVariables false

/-- The prime of a number below 6. -/
def prm (m : Nat) : Nat := [3, 5, 7, 11, 13, 17].getD m 3
theorem prm_ok (m : Nat) (h : m < 6) : primeB (prm m) = true ∧ 0 < (rts (prm m) (prm m)).length := by
  have : m = 0 ∨ m = 1 ∨ m = 2 ∨ m = 3 ∨ m = 4 ∨ m = 5 := by omega
  rcases this with rfl | rfl | rfl | rfl | rfl | rfl <;> decide +kernel
theorem ix_0 (w : World) : (Instr.index 54 (.agg #[.int .i64 3, .int .i64 5, .int .i64 7, .int .i64 11, .int .i64 13, .int .i64 17]) (.int .i64 0)).run Try.prog w = .ok (.int .i64 3) w := by kernel_rfl
theorem ix_1 (w : World) : (Instr.index 54 (.agg #[.int .i64 3, .int .i64 5, .int .i64 7, .int .i64 11, .int .i64 13, .int .i64 17]) (.int .i64 1)).run Try.prog w = .ok (.int .i64 5) w := by kernel_rfl
theorem ix_2 (w : World) : (Instr.index 54 (.agg #[.int .i64 3, .int .i64 5, .int .i64 7, .int .i64 11, .int .i64 13, .int .i64 17]) (.int .i64 2)).run Try.prog w = .ok (.int .i64 7) w := by kernel_rfl
theorem ix_3 (w : World) : (Instr.index 54 (.agg #[.int .i64 3, .int .i64 5, .int .i64 7, .int .i64 11, .int .i64 13, .int .i64 17]) (.int .i64 3)).run Try.prog w = .ok (.int .i64 11) w := by kernel_rfl
theorem ix_4 (w : World) : (Instr.index 54 (.agg #[.int .i64 3, .int .i64 5, .int .i64 7, .int .i64 11, .int .i64 13, .int .i64 17]) (.int .i64 4)).run Try.prog w = .ok (.int .i64 13) w := by kernel_rfl
theorem ix_5 (w : World) : (Instr.index 54 (.agg #[.int .i64 3, .int .i64 5, .int .i64 7, .int .i64 11, .int .i64 13, .int .i64 17]) (.int .i64 5)).run Try.prog w = .ok (.int .i64 17) w := by kernel_rfl
theorem ix_prm (m : Nat) (h : m < 6) (w : World) : (Instr.index 54 (.agg #[.int .i64 3, .int .i64 5, .int .i64 7, .int .i64 11, .int .i64 13, .int .i64 17]) (.int .i64 m)).run Try.prog w = .ok (.int .i64 (prm m)) w := by
  have : m = 0 ∨ m = 1 ∨ m = 2 ∨ m = 3 ∨ m = 4 ∨ m = 5 := by omega
  rcases this with rfl | rfl | rfl | rfl | rfl | rfl
  · exact ix_0 w
  · exact ix_1 w
  · exact ix_2 w
  · exact ix_3 w
  · exact ix_4 w
  · exact ix_5 w
theorem rts_mem (p : Nat) (x : Int) (h : x ∈ rts p p) : ∃ g : Nat, x = g ∧ rootB p g = true ∧ g < p := by
  simp only [rts, List.mem_map, List.mem_filter, List.mem_range] at h
  obtain ⟨g, ⟨h1, h2⟩, rfl⟩ := h
  exact ⟨g, rfl, h2, h1⟩
/-- A prime and two of its roots. -/
def Primes (w : World) (e : Ending) (w' : World) : Prop := ∃ P G H : Nat, e = .returned (.tuple #[.int .i64 P, .int .i64 G, .int .i64 H]) ∧ primeB P = true ∧ rootB P G = true ∧ rootB P H = true ∧ Keeps w w'
set_option maxHeartbeats 2000000 in
set_option maxRecDepth 100000 in
theorem prime_c (p g h : Int) (hp : (Lit.int .i64 p).wf = true) (hg : (Lit.int .i64 g).wf = true) (hh : (Lit.int .i64 h).wf = true) (w : World) :
    Calls Try.prog 19 #[.int .i64 p, .int .i64 g, .int .i64 h] w (Primes w) := by
  have hmod := fun x => mod_c p 6 hp (by omega) (by omega) x
  obtain ⟨m0, m1⟩ := modN_in p 6 (by omega)
  generalize modN p 6 = mi at *
  obtain ⟨m, rfl⟩ := Int.eq_ofNat_of_zero_le m0
  have hm6 : m < 6 := by omega
  obtain ⟨hP, hlen⟩ := prm_ok m hm6
  have hix := ix_prm m hm6
  have hrr := fun x => rroots_c (prm m) hP x
  have hP17 : 3 ≤ prm m ∧ prm m ≤ 17 := by simp [primeB] at hP; omega
  have hl17 := rts_length (prm m) (prm m)
  have Hmem := Lib.hid (rts_mem (prm m))
  generalize prm m = P at *
  generalize rts P P = L at *
  have hmg := fun x => mod_q g L.length hg (by omega) (by omega) x
  have hmh := fun x => mod_q h L.length hh (by omega) (by omega) x
  obtain ⟨g0, g1⟩ := modN_in g L.length (by omega)
  obtain ⟨h0, h1⟩ := modN_in h L.length (by omega)
  generalize modN g L.length = gi at *
  generalize modN h L.length = hi at *
  obtain ⟨gn, rfl⟩ := Int.eq_ofNat_of_zero_le g0
  obtain ⟨hn, rfl⟩ := Int.eq_ofNat_of_zero_le h0
  have hgn : gn < L.length := by omega
  have hhn : hn < L.length := by omega
  have HP := Lib.hid hP
  clear hP hp hg hh m0 m1 hP17
  go_enter Try.func19, Try.ntmps19
  go_wp2_with fail
  refine (hmod _).mono ?_
  rintro e w1 ⟨rfl, rfl⟩
  go_wp2_with fail
  refine (hrr _).mono ?_
  rintro e w2 ⟨u, rfl, hu, hb2⟩
  obtain ⟨Au, cu, rfl, hmu, hcu⟩ := id hu
  obtain ⟨b1, o1, u1, hA1, c1, rfl⟩ := hcu gn hgn
  obtain ⟨b2, o2, u2, hA2, c2, rfl⟩ := hcu hn hhn
  subst hA1
  cases hA2
  clear hcu hmod hrr hix hu
  unfold maxLen at hmu
  have q1 : (gn : Int) < L.length := by omega
  have q2 : (hn : Int) < L.length := by omega
  have q3 : 0 ≤ (gn : Int) := by omega
  have q4 : 0 ≤ (hn : Int) := by omega
  go_wp2_with fail
  refine wp_region_quiet_lit (by kernel_rfl) (by kernel_rfl) ?_
  iterate 5 go_big_quiet_step (fail)
  go_big_quiet_step ((go_at_call 13; exact Calls.quiet_of_same (hmg _)))
  iterate 6 go_big_quiet_step (fail)
  go_big_quiet_step ((go_at_call 13; exact Calls.quiet_of_same (hmh _)))
  iterate 5 go_big_quiet_step (fail)
  refine wpQuiet_nil ?_
  intro _ hw'
  obtain ⟨nq, hw''⟩ := hw'
  subst hw''
  go_wp2_with fail
  obtain ⟨G, hG, hG2, -⟩ := Hmem.out _ (nth_mem L gn hgn)
  obtain ⟨H, hH, hH2, -⟩ := Hmem.out _ (nth_mem L hn hhn)
  go_ret3
  exact ⟨P, G, H, by rw [← hG, ← hH]; rfl, HP.out, hG2, hH2, below_drewN hb2⟩
end Go.Proofs.Ytodopdfjjgpdeaa
