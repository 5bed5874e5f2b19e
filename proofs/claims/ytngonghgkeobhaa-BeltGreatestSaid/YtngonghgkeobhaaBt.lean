/- The list of a cycle; the joints of a graph are bits. -/
import Derived.Test.YtngonghgkeobhaaBs
import Derived.Test.YtngonghgkeobhaaBm
namespace Go.Proofs.Ytngonghgkeobhaa
open Go.RowKit Go.Shelf
set_option linter.unusedVariables false
set_option linter.unusedSimpArgs false

theorem jK_ok (l : List Ed) : ∀ k, k ≤ 64 → (jK l k).length = 144 ∧ ∀ i, i < 144 → ∃ m : Nat, nth (jK l k) i = m ∧ m < 2 ^ 64
  | 0, _ => ⟨by simp [jK, zJ], fun i hi => ⟨0, by show nth (List.replicate 144 0) i = _; unfold nth; rw [List.getElem?_replicate, if_pos hi]; rfl, by decide⟩⟩
  | k + 1, hk => by
    obtain ⟨h1, h2⟩ := jK_ok l k (by omega)
    have hp : (2 : Nat) ^ k < 2 ^ 64 := Nat.pow_lt_pow_right (by decide) (by omega)
    have hset : ∀ (L : List Int) (j : Nat), L.length = 144 → (∀ i, i < 144 → ∃ m : Nat, nth L i = m ∧ m < 2 ^ 64) → (L.set j ((2 ^ k : Nat) : Int)).length = 144 ∧ ∀ i, i < 144 → ∃ m : Nat, nth (L.set j ((2 ^ k : Nat) : Int)) i = m ∧ m < 2 ^ 64 := fun L j q1 q2 => by
      refine ⟨by rw [List.length_set]; exact q1, fun i hi => ?_⟩
      by_cases e : i = j
      · subst e
        exact ⟨2 ^ k, by unfold nth; rw [List.getElem?_set_self (by omega)]; rfl, hp⟩
      · obtain ⟨m, h3, h4⟩ := q2 i hi
        exact ⟨m, by unfold nth at h3 ⊢; rw [List.getElem?_set_ne (fun h => e h.symm)]; exact h3, h4⟩
    show (match l[k]? with | some x => _ | none => _ : List Int).length = 144 ∧ _
    simp only [jK]
    cases l[k]? with
    | none => exact ⟨h1, h2⟩
    | some x =>
      obtain ⟨h3, h4⟩ := hset _ (x.1.toNat * 12 + x.2.1.toNat) h1 h2
      exact hset _ _ h3 h4
theorem jok_jK (l : List Ed) (k : Nat) (h : k ≤ 64) : jok (jK l k) := jK_ok l k h
set_option maxHeartbeats 1000000 in
set_option maxRecDepth 100000 in
theorem clist_c (W : List Nat) (h1 : 1 ≤ W.length) (h12 : W.length ≤ 12) (w : World) :
    Calls Try.prog 50 #[.agg (ic (cyc W))] w fun e w' => ∃ b c, e = .returned (.slice (some ⟨b, 0, none⟩) W.length c) ∧ w.heap.size ≤ b ∧ RdI w' (.slice (some ⟨b, 0, none⟩) W.length c) (castL W) ∧ Keeps w w' := by
  obtain ⟨q, hq⟩ : ∃ q, W.length = q := ⟨_, rfl⟩
  have hcl := cyc_length W h12
  have hw1 : At (w.alloc (.cells (ic (cyc W)) 92)) w.heap.size 92 (ic (cyc W)) := At.new _ _ _
  have c0 := hw1.int 0 (by omega)
  rw [cyc_0, hq] at c0
  have hrd : RdI (w.alloc (.cells (ic (cyc W)) 92)) (.slice (some ⟨w.heap.size, 1, none⟩) (castL W).length 12) (castL W) := by
    refine ⟨some ⟨w.heap.size, 1, none⟩, 12, rfl, by rw [castL_length]; unfold maxLen; omega, fun i hi => ?_⟩
    rw [castL_length] at hi
    refine ⟨w.heap.size, 1, _, rfl, ?_, rfl⟩
    rw [hw1.int (1 + i) (by omega), cyc_at W i hi, castL_nth W i hi]
  have hk : Keeps w (w.alloc (.cells (ic (cyc W)) 92)) := Keeps.alloc (Below.refl _ _) _
  have hcc := clone_c w.heap.size 1 12 (castL W) (by rw [castL_length]; omega) (by rw [castL_length]; omega) _ hrd
  rw [castL_length, hq] at hcc
  rw [hq]
  obtain ⟨C, hC⟩ : ∃ C, C = ic (cyc W) := ⟨_, rfl⟩
  rw [← hC] at c0 hk hcc ⊢
  have hq12 : (q : Int) ≤ 12 := by omega
  have hq1 : (1 : Int) ≤ q := by omega
  clear hw1 hrd hC hcl
  go_enter Try.func50, Try.ntmps50
  go_wp2_with (go_at_call 39; refine hcc.mono ?_; rintro e w1 ⟨b, c, rfl, _, _, hbb, hr1, hb1⟩)
  go_ret
  exact ⟨b, c, rfl, Nat.le_trans hk.size hbb, hr1, Keeps.next hk hb1⟩
end Go.Proofs.Ytngonghgkeobhaa
