/- The law's same; the reference's Switch; the law Switches. -/
import Derived.Test.YtngonghgkeobhaaEn
import Derived.BigQuiet
namespace Go.Proofs.Ytngonghgkeobhaa
open Go.RowKit Go.Shelf
set_option linter.unusedVariables false
set_option linter.unusedSimpArgs false

set_option maxHeartbeats 2000000 in
set_option maxRecDepth 100000 in
theorem same_c (v v' : Value) (l : List Ed) (h41 : l.length ≤ 41) (w : World) (hv : RdE w v l) (hv' : RdE w v' l) :
    Calls Try.prog 21 #[v, v'] w fun e w' => e = .returned (.bool true) ∧ Keeps w w' := by
  obtain ⟨A, c, rfl, hm, hcs⟩ := id hv
  obtain ⟨A', c', rfl, hm', hcs'⟩ := id hv'
  have Hcs := Lib.hid hcs
  have Hcs' := Lib.hid hcs'
  clear hcs hcs' hv hv'
  go_enter Try.func21, Try.ntmps21
  go_wp2_with fail
  go_loopw [5] (fun i wr => ∃ k : Nat, k ≤ l.length ∧ i = .int .i64 k ∧ Keeps w wr) (fun i _ => l.length - (intOf i).toNat)
  case atStart => exact ⟨0, Nat.zero_le _, rfl, Below.refl _ _⟩
  case round =>
    obtain ⟨k, hk, rfl, hb⟩ := hrel
    by_cases hlt : k < l.length
    · obtain ⟨x, hx⟩ : ∃ x, l[k]? = some x := ⟨_, List.getElem?_eq_getElem hlt⟩
      obtain ⟨b, off, rfl, c1, c2, c3⟩ := Hcs.out k x hx
      obtain ⟨b', off', rfl, d1, d2, d3⟩ := Hcs'.out k x hx
      have c1 := cell_keep c1 hb
      have c2 := cell_keep c2 hb
      have c3 := cell_keep c3 hb
      have d1 := cell_keep d1 hb
      have d2 := cell_keep d2 hb
      have d3 := cell_keep d3 hb
      have hkI : (k : Int) < (l.length : Int) := by omega
      clear hx
      go_wp2_with fail
      go_quiet (fail)
      go_wp2_with fail
      go_roundw
      case rel => exact ⟨k + 1, by omega, by go_num, below_drewN hb⟩
      case measure => simp [intOf]; omega
    · obtain rfl : k = l.length := by omega
      go_wp2_with fail
      go_ret
      exact ⟨rfl, hb⟩
theorem own_edges' {w : World} {base : Nat} {e : TypeId} {v : Value} {l : List Ed} {n : Nat} (h : w.ownsRow base e 3 v n (ecs l)) (hn : l.length = n) (hm : n ≤ maxLen) : RdE w v l := by
  subst hn
  exact own_edges h hm
theorem swL_len (S : Nat) (l : List Ed) : (swL S l).length = l.length := by simp [swL]
end Go.Proofs.Ytngonghgkeobhaa
