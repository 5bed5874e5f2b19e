/- The reference's Roots, Powers, Logs. -/
import Derived.Test.YtodopdfjjgpdeaaRa
import Derived.Test.YtodopdfjjgpdeaaSr
namespace Go.Proofs.Ytodopdfjjgpdeaa
open Go.RowKit Go.Shelf
set_option linter.unusedVariables false

set_option maxHeartbeats 2000000 in
theorem rroots_c (p : Nat) (hp : primeB p = true) (w : World) :
    Calls Try.prog 33 #[.int .i64 p] w fun e w' => ∃ u, e = .returned u ∧ RdI w' u (rts p p) ∧ Keeps w w' := by
  have hp17 : 3 ≤ p ∧ p ≤ 17 := by simp [primeB] at hp; omega
  obtain ⟨i0, hi, hz0, hz1, hz2⟩ := info_parts infoI
  have hro := fun k x => rroot_c p k hp x
  have h1 : rts p 1 = [] := by
    have : rootB p 0 = false := by simp [rootB]
    rw [rts_no p 0 (by exact_mod_cast this)]; rfl
  obtain ⟨p3, p17⟩ := hp17
  have H1 := Lib.hid h1
  clear hp h1
  go_enter Try.func33, Try.ntmps33
  go_wp2_with fail
  go_loopw [3, 4] (fun u i wr => ∃ k : Nat, 1 ≤ k ∧ k ≤ p ∧ i = .int .i64 k ∧ wr.ownsRow w.heap.size 3 1 u (rts p k).length ((rts p k).map (Value.int .i64)) ∧ Keeps w wr) (fun _ i _ => p - (intOf i).toNat)
  case atStart => exact ⟨1, by omega, by omega, rfl, by rw [H1.out]; exact World.ownsRow_nil _ _ _ _, Below.refl _ _⟩
  case round =>
    obtain ⟨k, hk1, hk, rfl, hown, hb⟩ := hrel
    have hlen := rts_length p k
    by_cases hlt : k < p
    · have hro2 := fun x => hro k x
      by_cases hr : rootB p k = true
      · rw [hr] at hro2
        have Hy := Lib.hid (rts_yes p k hr)
        clear hr
        have B1 : (rts p k).length + 1 ≤ maxLen := by unfold maxLen; omega
        have hwr := hb.size
        go_wp2_with (first
          | (go_at_call 48; refine (hro2 _).mono ?_; rintro e w2 ⟨rfl, rfl⟩)
          | (at_builtin; refine wpList_append_own _ rfl _ _ 22 rfl w.heap.size 3 i0 _ 1 8 Try.underlying22 hi hz0 hz1 hz2 rfl (by decide) _ (rts p k).length ((rts p k).map (Value.int .i64)) rfl (hown.alloc _) _ 1 1 [.int .i64 k] rfl rfl (new_cells _ _ _ _ (by simp)) (by simp [Value.oneCell']) B1 (by omega) (by simp; omega) ?_; intro v' w4 hown4 hgrow4 _))
        go_roundw
        case rel => exact ⟨k + 1, by omega, by omega, by go_num, by rw [Hy.out]; simpa using hown4, (Keeps.alloc hb _).grown hgrow4 (by simp; omega) (fun r hr => own_base hown r hr)⟩
        case measure => simp [intOf]; omega
      · have hr' : rootB p k = false := by simpa using hr
        rw [hr'] at hro2
        have Hy := Lib.hid (rts_no p k hr')
        clear hr hr'
        go_wp2_with (go_at_call 48; refine (hro2 _).mono ?_; rintro e w2 ⟨rfl, rfl⟩)
        go_roundw
        case rel => exact ⟨k + 1, by omega, by omega, by go_num, by rw [Hy.out]; exact hown, hb⟩
        case measure => simp [intOf]; omega
    · have hke : k = p := by omega
      have Hke := Lib.hid hke
      clear hke
      go_wp2_with fail
      go_ret
      refine ⟨_, rfl, ?_, hb⟩
      have := own_ints hown (by unfold maxLen; omega)
      rw [Hke.out] at this
      exact this.rd

/-- The reference's order of powers. -/
def rpowL (p g s : Nat) : List Int := (List.range (p - 1)).map fun i => (pwr p g (i + s) : Int) - 1
def rpowP (p g s k : Nat) : List Int := (List.range k).map fun i => (pwr p g (i + s) : Int) - 1
theorem rpowP_succ (p g s k : Nat) : rpowP p g s (k + 1) = rpowP p g s k ++ [(pwr p g (k + s) : Int) - 1] := by simp [rpowP, List.range_succ]
/-- The reference's order of two roots: those of i whose other exponent is below j; those below i. -/
def rlogJ (p g h i j : Nat) : List Int := ((List.range j).filter fun x => decide (1 ≤ x) && decide ((pwr p g i + pwr p h x) % p = 1)).map fun x : Nat => (x : Int) - 1
def rlogI (p g h i : Nat) : List Int := (List.range i).flatMap fun y => if y = 0 then [] else rlogJ p g h y (p - 1)
def rlogL (p g h : Nat) : List Int := rlogI p g h (p - 1)
theorem rlogJ_yes (p g h i j : Nat) (h1 : 1 ≤ j) (hy : (pwr p g i + pwr p h j) % p = 1) : rlogJ p g h i (j + 1) = rlogJ p g h i j ++ [(j : Int) - 1] := by simp [rlogJ, List.range_succ, h1, hy]
theorem rlogJ_no (p g h i j : Nat) (hy : ¬ (pwr p g i + pwr p h j) % p = 1) : rlogJ p g h i (j + 1) = rlogJ p g h i j := by simp [rlogJ, List.range_succ, hy]
theorem rlogJ_length (p g h i j : Nat) : (rlogJ p g h i j).length ≤ j := by
  rw [rlogJ, List.length_map]
  exact Nat.le_trans (List.length_filter_le _ _) (by simp)
theorem rlogI_succ (p g h i : Nat) (h1 : 1 ≤ i) : rlogI p g h (i + 1) = rlogI p g h i ++ rlogJ p g h i (p - 1) := by simp [rlogI, List.range_succ, show i ≠ 0 by omega]
theorem rlogI_length (p g h i : Nat) : (rlogI p g h i).length ≤ i * p := by
  induction i with
  | zero => simp [rlogI]
  | succ i ih =>
    by_cases h0 : i = 0
    · subst h0; simp [rlogI]
    · rw [rlogI_succ _ _ _ _ (by omega), List.length_append]
      have := rlogJ_length p g h i (p - 1)
      rw [Nat.succ_mul]; omega
end Go.Proofs.Ytodopdfjjgpdeaa
