/- The law StudKnown. -/
import Derived.Test.YtcbcjmckjnbehaaVc
namespace Go.Proofs.Ytcbcjmckjnbehaa
open Go.RowKit
set_option linter.unusedVariables false

theorem at_rd {x : World} {b n : Nat} {L : List Int} (h : At x b 3 (ic L)) (hl : L.length = n) (hn : n ≤ 1000) : RdI x (.slice (some ⟨b, 0, none⟩) n n) L := by
  have := RdI_of_at (m := n) (c := n) h (by omega) (by unfold maxLen; omega)
  rwa [List.take_of_length_le (by omega)] at this
set_option maxHeartbeats 4000000 in
set_option maxRecDepth 100000 in
theorem law_known (p g h s : Int) (w : World) (hp0 : (Lit.int .i64 p).wf = true) (hg0 : (Lit.int .i64 g).wf = true) (hh0 : (Lit.int .i64 h).wf = true) (hs0 : (Lit.int .i64 s).wf = true) :
    Calls Try.prog 6 #[.int .i64 p, .int .i64 g, .int .i64 h, .int .i64 s] w fun e w' => e = .returned (.bool true) ∧ Keeps w w' := by
  have hpr := fun x => prime_c p g h hp0 hg0 hh0 x
  clear hp0 hg0 hh0
  go_enter Try.func6, Try.ntmps6
  go_wp2_with fail
  refine (hpr _).mono ?_
  rintro e w1 ⟨P, G, H, rfl, hP, hG, hH, hb1⟩
  clear hpr
  have hP17 : 3 ≤ P ∧ P ≤ 17 := by simp [primeB] at hP; omega
  have hmod := fun x => mod_c s ((P : Int) - 1) hs0 (by omega) (by omega) x
  obtain ⟨m0, m1⟩ := modN_in s ((P : Int) - 1) (by omega)
  generalize modN s ((P : Int) - 1) = mi at *
  obtain ⟨t, rfl⟩ := Int.eq_ofNat_of_zero_le m0
  have ht : t + 2 ≤ P := by omega
  have hpw := fun x => powers_yes P G t hP hG ht x
  have hlo := fun x => logs_yes P G H hP hG hH x
  obtain ⟨a1, a2⟩ := pow_known P G t hP hG
  obtain ⟨b1, b2⟩ := log_known P G H hP hG hH
  have hl1 := powL_length P G t
  have hl2 : (logL P G H).length = P - 2 := by simp [logL]
  generalize powL P G t = L at *
  generalize logL P G H = M at *
  have hra := fun x b hx => rorder_c (.slice (some ⟨b, 0, none⟩) (P - 1) (P - 1)) L x hx
  have hrb := fun x b hx => rorder_c (.slice (some ⟨b, 0, none⟩) (P - 2) (P - 2)) M x hx
  have hca := fun x b hx => clear_c (some ⟨b, 0, none⟩) (P - 1) L x hx
  have hcb := fun x b hx => clear_c (some ⟨b, 0, none⟩) (P - 2) M x hx
  rw [hl1] at hca
  rw [hl2] at hcb
  rw [a1] at hra
  rw [b1] at hrb
  rw [show clearA L = ia 0 0 0 0 by rw [clearA, clearT, a1, a2]; rfl, show clearK L = true by rw [clearK, a1, a2]; rfl, a1, if_pos rfl] at hca
  rw [show clearA M = ia 0 0 0 0 by rw [clearA, clearT, b1, b2]; rfl, show clearK M = true by rw [clearK, b1, b2]; rfl, b1, if_pos rfl] at hcb
  have Hl1 := Lib.hid hl1
  have Hl2 := Lib.hid hl2
  have q1 : ((P - 1 : Nat) : Int) = (P : Int) - 1 := by omega
  have q2 : ((P - 2 : Nat) : Int) = (P : Int) - 2 := by omega
  obtain ⟨p3, p17⟩ := hP17
  clear hP hG hH a1 a2 b1 b2 hl1 hl2 hs0 m0 m1
  go_wp2_with (go_at_call 20; refine (hmod _).mono ?_; rintro e w2 ⟨rfl, rfl⟩)
  refine (hpw _).mono ?_
  rintro e w3 ⟨bp, rfl, -, hu, hb3⟩
  have hk3 := Keeps.next hb1 hb3
  go_wp2_with fail
  refine (hlo _).mono ?_
  rintro e w4 ⟨bl, rfl, -, hv, hb4⟩
  have hk4 := Keeps.next hk3 hb4
  have hu4 := hu.later hb4
  clear hu hpw hlo hmod
  have r1 := fun x hx => at_rd (x := x) (b := bp) hx Hl1.out (by omega)
  have r2 := fun x hx => at_rd (x := x) (b := bl) hx Hl2.out (by omega)
  go_wp2_with (first
    | (go_at_call 21; have tok := hu4; refine (hra _ _ (r1 _ hu4)).mono ?_; rintro e w5 ⟨rfl, hb5⟩; have hk5 := Keeps.next hk4 hb5; have hu5 := hu4.later hb5; have hv5 := hv.later hb5; clear tok hu4 hv hra hb5 hk4)
    | (go_at_call 21; refine (hrb _ _ (r2 _ hv5)).mono ?_; rintro e w6 ⟨rfl, hb6⟩; have hk6 := Keeps.next hk5 hb6; have hu6 := hu5.later hb6; have hv6 := hv5.later hb6; clear hu5 hv5 hrb hb6 hk5)
    | (go_at_call 22; refine (hca _ _ (r1 _ hu6)).mono ?_; rintro e w7 ⟨rfl, hb7⟩; have hk7 := Keeps.next hk6 hb7; have hv7 := hv6.later hb7; clear hu6 hv6 hca hb7 hk6)
    | (refine wpList_store_row rfl 38 _ _ rfl w7.heap.size (ia 0 0 0 0) rfl rfl 38 (ia 0 0 0 0) (At.new w7 38 (ia 0 0 0 0)) (sizeF _ _ _ _) rfl (by simp [ia, Value.oneCell']) ?_
       have hk8 : Keeps w ((w7.alloc (.cells (ia 0 0 0 0) 38)).setRow w7.heap.size (ia 0 0 0 0)) := below_row (Keeps.alloc hk7 _) hk7.size _
       have hv8 := (hv7.alloc (.cells (ia 0 0 0 0) 38)).rowfar (g' := w7.heap.size) (by have := hv7.lt; omega) (ia 0 0 0 0)
       change wpList _ _ _ _ _ ((w7.alloc (.cells (ia 0 0 0 0) 38)).setRow w7.heap.size (ia 0 0 0 0))
       generalize (w7.alloc (.cells (ia 0 0 0 0) 38)).setRow w7.heap.size (ia 0 0 0 0) = w8 at *
       clear hk7 hv7)
    | (go_at_call 22; refine (hcb _ _ (r2 _ hv8)).mono ?_; rintro e w9 ⟨rfl, hb9⟩; have hk9 := Keeps.next hk8 hb9; clear hv8 hcb hb9 hk8)
    | (refine wpList_store_row rfl 38 _ _ rfl w9.heap.size (ia 0 0 0 0) rfl rfl 38 (ia 0 0 0 0) (At.new w9 38 (ia 0 0 0 0)) (sizeF _ _ _ _) rfl (by simp [ia, Value.oneCell']) ?_
       have hk10 : Keeps w ((w9.alloc (.cells (ia 0 0 0 0) 38)).setRow w9.heap.size (ia 0 0 0 0)) := below_row (Keeps.alloc hk9 _) hk9.size _
       change wpList _ _ _ _ _ ((w9.alloc (.cells (ia 0 0 0 0) 38)).setRow w9.heap.size (ia 0 0 0 0))
       generalize (w9.alloc (.cells (ia 0 0 0 0) 38)).setRow w9.heap.size (ia 0 0 0 0) = w10 at *
       clear hk9)
    | (go_at_call 11; refine (awake_c _).mono ?_; rintro e w11 ⟨rfl, hb11⟩; have hk11 := Keeps.next hk10 hb11))
  go_ret
  exact ⟨rfl, hk11⟩
end Go.Proofs.Ytcbcjmckjnbehaa
