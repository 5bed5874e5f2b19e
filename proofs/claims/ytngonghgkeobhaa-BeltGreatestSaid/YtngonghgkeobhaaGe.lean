/- The law Alls. -/
import Derived.Test.YtngonghgkeobhaaGc
import Derived.Test.YtngonghgkeobhaaGd
namespace Go.Proofs.Ytngonghgkeobhaa
open Go.RowKit Go.Shelf
set_option linter.unusedVariables false
set_option linter.unusedSimpArgs false

theorem own_ints2 {w : World} {base : Nat} {v : Value} {l : List Int} (h : w.ownsRow base 3 1 v l.length (l.map (Value.int .i64))) (hm : l.length ≤ maxLen) : RdI w v l := (own_ints h hm).rd
theorem nodup_le : ∀ (R M : List Int), R.Nodup → (∀ x ∈ R, x ∈ M) → R.length ≤ M.length
  | [], M, _, _ => Nat.zero_le _
  | x :: R, M, hn, hs => by
    have hx := hs x List.mem_cons_self
    rw [List.nodup_cons] at hn
    have h := nodup_le R (M.erase x) hn.2 fun y hy => (List.mem_erase_of_ne (fun e => hn.1 (by rw [← e]; exact hy))).2 (hs y (List.mem_cons_of_mem _ hy))
    rw [List.length_erase_of_mem hx] at h
    have := List.length_pos_of_mem hx
    simp only [List.length_cons]; omega
theorem prp_len_le (v : Nat) (hv : v < 12) (l : List Ed) (R : List Int) (hR : R.Pairwise (· < ·)) (hm : ∀ x, x ∈ R ↔ x ∈ (prp v).map fun s => valL s l) : R.length ≤ 2048 := by
  have hnd : R.Nodup := hR.imp (fun h e => by omega)
  have h1 : R.length ≤ ((prp v).map fun s => valL s l).length := nodup_le R _ hnd (fun x hx => (hm x).1 hx)
  rw [List.length_map, show (prp v).length = 2 ^ v from sds_length _ _] at h1
  exact Nat.le_trans h1 (Nat.le_trans (Nat.pow_le_pow_right (by decide) (show v ≤ 11 by omega)) (by decide))
set_option maxHeartbeats 4000000 in
set_option maxRecDepth 100000 in
theorem law_alls (n : Int) (v1 : Value) (l0 : List Ed) (w : World) (hn : (Lit.int .i64 n).wf = true) (hv : RdE w v1 l0) (hcap : Cap v1) :
    Calls Try.prog 8 #[.int .i64 n, v1] w fun e w' => e = .returned (.bool true) ∧ Keeps w w' := by
  have hed := edges_c v1 l0 w hv hcap
  have hl41 : (l0.take 41).length ≤ 41 := by rw [List.length_take]; omega
  generalize l0.take 41 = l at *
  have hgr := fun v X hX => rgraph_c n v l hl41 X hX
  cases hg : graphB n l with
  | true =>
    obtain ⟨n1, n12⟩ := graphB_n hg
    obtain ⟨d, hd⟩ := Int.eq_ofNat_of_zero_le (show 0 ≤ n - 1 by omega)
    obtain rfl : n = (d : Int) + 1 := by omega
    have hE := graphB_edges hg
    have hbl := graphB_below hg (d + 1) (by omega)
    have hva := fun v X hX => Values_yes d v l hg X hX
    have hrv := fun v X hX => rvalues_c d v l (by omega) hE hbl X hX
    have Hle := Lib.hid (prp_len_le d (by omega) l)
    rw [hg] at hgr
    generalize (prp d).map (fun s => valL s l) = MS at *
    clear hg hE hbl hcap hn hv hl41
    go_enter Try.func8, Try.ntmps8
    go_upto_region 5 with (first
      | (go_at_call 27; refine hed.mono ?_; rintro e w1 ⟨A, c, rfl, hv1, hb1⟩)
      | (go_at_call 23; refine (hva _ _ hv1).mono ?_; rintro e w3 ⟨u, rfl, hO, hb3⟩; have hv3 := hv1.below hb3; have hk3 := hb1.next hb3; have HO := Lib.hid hO; clear hO)
      | (go_at_call 20; refine (hgr _ _ hv3).mono ?_; rintro e w5 ⟨rfl, m5, rfl⟩))
    go_wp2_with fail
    refine (hrv _ _ (hv3.below (below_drewN (Below.refl _ _)))).mono ?_
    rintro e w7 ⟨u7, R, rfl, hr7, hs7, hm7, hb7⟩
    have hk7 := Keeps.next (below_drewN hk3) hb7
    have hr8 := own_ints2 (own_later (own_later (HO.out R hs7 hm7) (below_drewN (n := m5) (Below.refl _ _))) hb7) (by have := Hle.out R hs7 hm7; unfold maxLen; omega)
    dsimp only
    go_wp2_with (first
      | (go_at_call 17; refine (ints_c _ _ R R _ hr8 hr7).mono ?_; rintro e w9 ⟨rfl, m9, rfl⟩; rw [decide_eq_true rfl])
      | (go_at_call 10; refine (awake_c _).mono ?_; rintro e w10 ⟨rfl, hb10⟩; have hk10 := Keeps.next (below_drewN hk7) hb10))
    go_ret
    exact ⟨rfl, hk10⟩
  | false =>
    have hva := fun v X hX => Values_no n v l hg X hX
    rw [hg] at hgr
    clear hg
    go_enter Try.func8, Try.ntmps8
    go_wp2_with (first
      | (go_at_call 27; refine hed.mono ?_; rintro e w1 ⟨A, c, rfl, hv1, hb1⟩)
      | (go_at_call 23; refine (hva _ _ hv1).mono ?_; rintro e w3 ⟨rfl, hb3⟩; have hv3 := hv1.below hb3; have hk3 := hb1.next hb3)
      | (go_at_call 20; refine (hgr _ _ hv3).mono ?_; rintro e w5 ⟨rfl, m5, rfl⟩)
      | (go_at_call 10; refine (awake_c _).mono ?_; rintro e w10 ⟨rfl, hb10⟩; have hk10 := Keeps.next (below_drewN hk3) hb10))
    go_ret
    exact ⟨rfl, hk10⟩
end Go.Proofs.Ytngonghgkeobhaa
