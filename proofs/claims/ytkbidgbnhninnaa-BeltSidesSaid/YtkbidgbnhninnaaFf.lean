/- The law Sides. -/
import Derived.Test.YtkbidgbnhninnaaFe
import Derived.Test.YtkbidgbnhninnaaDi
namespace Go.Proofs.Ytkbidgbnhninnaa
open Go.RowKit Go.Shelf
set_option linter.unusedVariables false
set_option linter.unusedSimpArgs false

theorem rsid_some {d : Nat} {l : List Ed} {e : Ending} (h : RSid d l e) (k : Nat) (hk : k < 2 ^ d) (h1 : fcB d l k = true) (h2 : ∀ j, j < k → fcB d l j = false) : e = .returned (.tuple #[.string (TX (k * 2 ^ (12 - d)) d), .bool true]) := by
  rcases h with ⟨q, hq, q1, q2, rfl⟩ | ⟨hn, _⟩
  · rcases Nat.lt_trichotomy q k with h | h | h
    · rw [h2 q h] at q1; cases q1
    · rw [h]
    · rw [q2 k h] at h1; cases h1
  · rw [hn k hk] at h1; cases h1
theorem rsid_none {d : Nat} {l : List Ed} {e : Ending} (h : RSid d l e) (h2 : ∀ j, j < 2 ^ d → fcB d l j = false) : e = .returned (.tuple #[.string ⟨#[]⟩, .bool false]) := by
  rcases h with ⟨q, hq, q1, q2, rfl⟩ | ⟨_, h⟩
  · rw [h2 q hq] at q1; cases q1
  · exact h
theorem find_prp (v : Nat) (hv : v < 12) (l : List Ed) (S : Nat) (h : (prp v).find? (fun s => cutB s l) = some S) : ∃ k, k < 2 ^ v ∧ S = k * 2 ^ (12 - (v + 1)) ∧ fcB (v + 1) l k = true ∧ ∀ j, j < k → fcB (v + 1) l j = false := by
  obtain ⟨h1, k, hk, h2, h3⟩ := List.find?_eq_some_iff_getElem.1 h
  have hk' : k < 2 ^ v := by rw [show (prp v).length = 2 ^ v from sds_length _ _] at hk; exact hk
  have e : ∀ j (hj : j < 2 ^ v) (hj' : j < (prp v).length), (prp v)[j] = j * 2 ^ (12 - (v + 1)) := fun j hj hj' => by
    have := prp_sd v j hj hv
    rw [List.getElem?_eq_getElem hj', Option.some.injEq] at this
    exact this
  rw [e k hk' hk] at h2
  refine ⟨k, hk', h2.symm, by unfold fcB; rw [h2]; exact h1, fun j hj => ?_⟩
  have := h3 j hj
  rw [e j (by omega) (by omega)] at this
  unfold fcB
  simpa using this
theorem find_prp_none (v : Nat) (hv : v < 12) (l : List Ed) (h : (prp v).find? (fun s => cutB s l) = none) : ∀ k, k < 2 ^ v → fcB (v + 1) l k = false := by
  intro k hk
  rw [List.find?_eq_none] at h
  have := h _ (List.mem_of_getElem? (prp_sd v k hk hv))
  unfold fcB
  simpa using this
set_option maxHeartbeats 4000000 in
set_option maxRecDepth 100000 in
theorem law_sides (n : Int) (v1 : Value) (l0 : List Ed) (w : World) (hn : (Lit.int .i64 n).wf = true) (hv : RdE w v1 l0) (hcap : Cap v1) :
    Calls Try.prog 3 #[.int .i64 n, v1] w fun e w' => e = .returned (.bool true) ∧ Keeps w w' := by
  have hed := edges_c v1 l0 w hv hcap
  have hl41 : (l0.take 41).length ≤ 41 := by rw [List.length_take]; omega
  generalize l0.take 41 = l at *
  have hgr := fun v X hX => rgraph_c n v l hl41 X hX
  cases hg : graphB n l with
  | true =>
    obtain ⟨n1, n12⟩ := graphB_n hg
    obtain ⟨d, hd⟩ := Int.eq_ofNat_of_zero_le (show 0 ≤ n - 1 by omega)
    obtain rfl : n = (d : Int) + 1 := by omega
    have hE := graphB_edges hg
    have hT := edgesT_of hg
    have hbl := graphB_below hg (d + 1) (by omega)
    have hrs0 := fun v X hX => rsides_c (d + 1) v l (by omega) hE hbl X hX
    rw [show ((d + 1 : Nat) : Int) = (d : Int) + 1 by omega] at hrs0
    rw [hg] at hgr
    have hp2 : 2 ^ (d + 1) = 2 ^ d * 2 := Nat.pow_succ 2 d
    cases hf : (prp d).find? (fun s => cutB s l) with
    | none =>
      have hsi := fun v X hX => Sides_none d v l hg hf X hX
      have hall := fcB_half d (by omega) l hbl hT (find_prp_none d (by omega) l hf)
      have hrs : ∀ v X, RdE X v l → Calls Try.prog 10 #[.int .i64 ((d : Int) + 1), v] X fun e w' => e = .returned (.tuple #[.string ⟨#[]⟩, .bool false]) ∧ Keeps X w' := fun v X hX => (hrs0 v X hX).mono (fun e w' h => ⟨rsid_none h.1 hall, h.2⟩)
      clear hg hE hbl hcap hn hv hl41 hrs0 hf hT hall hp2
      go_enter Try.func3, Try.ntmps3
      go_wp2_with (first
        | (go_at_call 6; refine hed.mono ?_; rintro e w1 ⟨A, c, rfl, hv1, hb1⟩)
        | (go_at_call 7; refine (hsi _ _ hv1).mono ?_; rintro e w3 ⟨rfl, hb3⟩; have hv3 := hv1.below hb3; have hk3 := hb1.next hb3)
        | (go_at_call 8; refine (hgr _ _ hv3).mono ?_; rintro e w5 ⟨rfl, m5, rfl⟩)
        | (go_at_call 10; refine (hrs _ _ (hv3.below (below_drewN (Below.refl _ _)))).mono ?_; rintro e w7 ⟨rfl, hb7⟩; have hk7 := Keeps.next (below_drewN hk3) hb7)
        | (go_at_call 9; refine (awake_c _).mono ?_; rintro e w10 ⟨rfl, hb10⟩; have hk10 := hk7.next hb10))
      go_ret
      exact ⟨rfl, hk10⟩
    | some S =>
      obtain ⟨k, k1, k2, k3, k4⟩ := find_prp d (by omega) l S hf
      have hS : S < 65536 := sds_lt (bt d) (2 ^ d) (by rw [pow_bt d (by omega)]; decide) S (List.mem_of_find?_eq_some hf)
      have hsi := fun v X hX => Sides_some d S v l hg hf hS X hX
      have hrs : ∀ v X, RdE X v l → Calls Try.prog 10 #[.int .i64 ((d : Int) + 1), v] X fun e w' => e = .returned (.tuple #[.string (TX (k * 2 ^ (12 - (d + 1))) (d + 1)), .bool true]) ∧ Keeps X w' := fun v X hX => (hrs0 v X hX).mono (fun e w' h => ⟨rsid_some h.1 k (by omega) k3 k4, h.2⟩)
      rw [← k2] at hrs
      generalize TX S (d + 1) = T at *
      clear hg hE hbl hcap hn hv hl41 hrs0 hf hT hp2 k1 k2 k3 k4 hS
      go_enter Try.func3, Try.ntmps3
      go_wp2_with (first
        | (go_at_call 6; refine hed.mono ?_; rintro e w1 ⟨A, c, rfl, hv1, hb1⟩)
        | (go_at_call 7; refine (hsi _ _ hv1).mono ?_; rintro e w3 ⟨rfl, hb3⟩; have hv3 := hv1.below hb3; have hk3 := hb1.next hb3)
        | (go_at_call 8; refine (hgr _ _ hv3).mono ?_; rintro e w5 ⟨rfl, m5, rfl⟩)
        | (go_at_call 10; refine (hrs _ _ (hv3.below (below_drewN (Below.refl _ _)))).mono ?_; rintro e w7 ⟨rfl, hb7⟩; have hk7 := Keeps.next (below_drewN hk3) hb7)
        | (go_at_call 9; refine (awake_c _).mono ?_; rintro e w10 ⟨rfl, hb10⟩; have hk10 := hk7.next hb10))
      go_ret
      exact ⟨rfl, hk10⟩
  | false =>
    have hsi := fun v X hX => Sides_no n v l hg X hX
    rw [hg] at hgr
    clear hg
    go_enter Try.func3, Try.ntmps3
    go_wp2_with (first
      | (go_at_call 6; refine hed.mono ?_; rintro e w1 ⟨A, c, rfl, hv1, hb1⟩)
      | (go_at_call 7; refine (hsi _ _ hv1).mono ?_; rintro e w3 ⟨rfl, hb3⟩; have hv3 := hv1.below hb3; have hk3 := hb1.next hb3)
      | (go_at_call 8; refine (hgr _ _ hv3).mono ?_; rintro e w5 ⟨rfl, m5, rfl⟩)
      | (go_at_call 9; refine (awake_c _).mono ?_; rintro e w10 ⟨rfl, hb10⟩; have hk10 := Keeps.next (below_drewN hk3) hb10))
    go_ret
    exact ⟨rfl, hk10⟩
end Go.Proofs.Ytkbidgbnhninnaa
