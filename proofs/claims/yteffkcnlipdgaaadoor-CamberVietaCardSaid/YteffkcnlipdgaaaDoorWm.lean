/- The law of Vieta. -/
import Derived.Test.YteffkcnlipdgaaaDoorWc
import Derived.Test.YteffkcnlipdgaaaDoorMb
import Derived.Test.YteffkcnlipdgaaaDoorVg
namespace Go.Proofs.YteffkcnlipdgaaaDoor
open Go.RowKit
set_option linter.unusedVariables false
set_option linter.unusedSimpArgs false

def modN (x n : Int) : Int := (x % 18446744073709551616) % n
theorem mod_eq (x n : Int) (h1 : 1 ≤ n) (h2 : n ≤ 1099511627776) : wrap64 ((IntKind.u64.wrap x).tmod n) = modN x n := by
  have hw : IntKind.u64.wrap x = x % 18446744073709551616 := by simp [IntKind.wrap, IntKind.signed, IntKind.bits]
  have h0 : 0 ≤ x % 18446744073709551616 := Int.emod_nonneg _ (by omega)
  have h3 : (x % 18446744073709551616).tmod n = modN x n := by rw [modN, Int.tmod_eq_emod_of_nonneg h0]
  have h4 : 0 ≤ modN x n := Int.emod_nonneg _ (by omega)
  have h5 : modN x n < n := Int.emod_lt_of_pos _ (by omega)
  rw [hw, h3]
  simp only [wrap64]
  omega
theorem modN_in (x n : Int) (h1 : 1 ≤ n) : 0 ≤ modN x n ∧ modN x n < n := ⟨Int.emod_nonneg _ (by omega), Int.emod_lt_of_pos _ (by omega)⟩
set_option maxHeartbeats 400000 in
theorem mod_c (x n : Int) (hx : (Lit.int .i64 x).wf = true) (h1 : 1 ≤ n) (h2 : n ≤ 1099511627776) (w : World) :
    Calls Tryd.prog 10 #[.int .i64 x, .int .i64 n] w fun e w' => e = .returned (.int .i64 (modN x n)) ∧ w = w' := by
  go_enter Tryd.func10, Tryd.ntmps10
  go_wp2_with fail
  go_ret
  exact ⟨ret_int (mod_eq x n h1 h2), rfl⟩
theorem eqm_self (a b c : Int) (w : World) : (Op.equalIn 10000 22 (.agg #[.int .i64 a, .int .i64 b, .int .i64 c]) (.agg #[.int .i64 a, .int .i64 b, .int .i64 c])).run Tryd.prog w = .ok true w := by
  have := eq3_arr a b c a b c w
  rw [show eq3 a b c a b c = true by simp [eq3]] at this
  exact this
/-- The k-th of three numbers. -/
def n3 (e : Ed) (k : Nat) : Int := if k = 0 then e.1 else if k = 1 then e.2.1 else e.2.2
def frs (e : Ed) (k : Nat) : Int := (exT e k).1 + (exT e k).2.1 + (exT e k).2.2 - n3 e ((k + 1) % 3) - n3 e ((k + 2) % 3)
/-- What CamberVieta asks, with the place i at which the new number stands. -/
def okV (e : Ed) (k i : Nat) : Bool := (trB (exT e k).1 (exT e k).2.1 (exT e k).2.2 && decide (exT (exT e k) i = e)) && ((decide (n3 (exT e k) i = frs e k) && (List.range i).all fun j => decide (n3 (exT e k) j ≠ frs e k)) && (decide ((n3 e ((k + 1) % 3) * n3 e ((k + 1) % 3) + n3 e ((k + 2) % 3) * n3 e ((k + 2) % 3)).tmod (n3 e k) = 0) && decide ((n3 e ((k + 1) % 3) * n3 e ((k + 1) % 3) + n3 e ((k + 2) % 3) * n3 e ((k + 2) % 3)).tdiv (n3 e k) = frs e k)))
def okV0 (e : Ed) : Bool := decide (1000000000 < (exT e 0).2.2) || okV e 0 2
def okV1 (e : Ed) : Bool := decide (1000000000 < (exT e 1).2.2) || okV e 1 2
def okV2 (e : Ed) : Bool := okV e 2 0 || okV e 2 1
theorem v0T : allT.all okV0 = true := by decide +kernel
theorem v1T : allT.all okV1 = true := by decide +kernel
theorem v2T : allT.all okV2 = true := by decide +kernel
set_option maxHeartbeats 8000000 in
set_option maxRecDepth 20000 in
theorem law_vieta (s : ByteArray) (a0 : Int) (w : World) (hs : s.size ≤ maxLen) (w0 : (Lit.int .i64 a0).wf = true) : Calls Tryd.prog 3 #[.string s, .int .i64 a0] w fun e w' => e = .returned (.bool true) ∧ Keeps w w' := by
  have cA := fun W => awake_c W
  have cM := fun W => mod_c a0 3 w0 (by decide) (by decide) W
  have hmn := modN_in a0 3 (by decide)
  generalize modN a0 3 = at3 at *
  go_enter Tryd.func3, Tryd.ntmps3
  go_upto_region 3 with (first
    | (go_at_call 9; refine (tame_c s hs _).mono ?_; rintro e w1 ⟨⟨p, t, hp1, hp2, hp3, rfl⟩, h1⟩; obtain ⟨x, y, z⟩ := t; simp only)
    | (go_at_call 10; refine (cM _).mono ?_; rintro e w9 ⟨rfl, rfl⟩))
  have hmem := fol_mem _ _ _ start_mem hp3
  have ht := List.all_eq_true.1 trisT _ hmem
  have v0 := List.all_eq_true.1 v0T _ hmem
  have v1 := List.all_eq_true.1 v1T _ hmem
  have v2 := List.all_eq_true.1 v2T _ hmem
  unfold okTri at ht
  unfold okV0 at v0
  unfold okV1 at v1
  unfold okV2 at v2
  simp only [Bool.and_eq_true, Bool.or_eq_true, decide_eq_true_eq] at ht v0 v1 v2
  have htb := ht.1
  have hbd := ((trB_iff _ _ _).1 htb).bds
  have hX := At.new w1 22 #[.int .i64 x, .int .i64 y, .int .i64 z]
  have k1 : Keeps w (w1.alloc (.cells #[.int .i64 x, .int .i64 y, .int .i64 z] 22)) := Keeps.alloc h1 _
  generalize w1.alloc (.cells #[.int .i64 x, .int .i64 y, .int .i64 z] 22) = Z at *
  have n1 := (row_six hX).1
  have n2 := (row_six hX).2.1
  have n3' := (row_six hX).2.2.1
  have h3c : at3 = 0 ∨ at3 = 1 ∨ at3 = 2 := by omega
  clear cM hmn w0 hs
  rcases h3c with rfl | rfl | rfl
  · rcases v0 with hfull | hok
    · have cE := fun W => Exchange_0full x y z htb hfull W
      clear hmem ht htb hfull hp1 hp2 hp3 hbd
      go_wp2_with (first
        | (go_at_call 11; refine (cE _).mono ?_; rintro e w2 ⟨rfl, h2⟩; have k2 : Keeps w (w2.alloc (.cells #[.int .i64 0, .int .i64 0, .int .i64 0] 22)) := Keeps.alloc (Keeps.next k1 h2) _)
        | (go_at_call 12; refine (cA _).mono ?_; rintro e w3 ⟨rfl, h3⟩; have k3 := Keeps.next k2 h3))
      go_ret
      exact ⟨rfl, k3⟩
    · unfold okV at hok
      simp only [Bool.and_eq_true, decide_eq_true_eq] at hok
      obtain ⟨⟨hx, hback⟩, ⟨hi, hj⟩, hm, hd⟩ := hok
      have hxb : (exT (x, y, z) 0).2.2 ≤ 1000000000 := ((trB_iff _ _ _).1 hx).1.2.2.2
      have cE := fun W => Exchange_0ok x y z htb hxb W
      have hx9 : exT (x, y, z) 0 = leftT (x, y, z) := rfl
      have hm : (y * y + z * z).tmod x = 0 := hm
      have hd : (y * y + z * z).tdiv x = (exT (x, y, z) 0).1 + (exT (x, y, z) 0).2.1 + (exT (x, y, z) 0).2.2 - y - z := hd
      have hi : (exT (x, y, z) 0).2.2 = (exT (x, y, z) 0).1 + (exT (x, y, z) 0).2.1 + (exT (x, y, z) 0).2.2 - y - z := hi
      have hn0 : (exT (x, y, z) 0).1 ≠ (exT (x, y, z) 0).1 + (exT (x, y, z) 0).2.1 + (exT (x, y, z) 0).2.2 - y - z := of_decide_eq_true (List.all_eq_true.1 hj 0 (by decide))
      have hn1 : (exT (x, y, z) 0).2.1 ≠ (exT (x, y, z) 0).1 + (exT (x, y, z) 0).2.1 + (exT (x, y, z) 0).2.2 - y - z := of_decide_eq_true (List.all_eq_true.1 hj 1 (by decide))
      clear hj
      rw [hx9] at hx hback hi hd hxb hn0 hn1
      have hx3 := ((trB_iff _ _ _).1 hx).bds
      generalize leftT (x, y, z) = X at *
      obtain ⟨x1, x2, x3⟩ := X
      simp only at hx hback hi hd hxb cE hx3 hn0 hn1
      have hb2 : (upT (x1, x2, x3)).2.2 ≤ 1000000000 := by rw [show upT (x1, x2, x3) = (x, y, z) from hback]; exact (hbd.2.2).2
      have cE2 := fun W => Exchange_2ok x1 x2 x3 hx hb2 W
      rw [show upT (x1, x2, x3) = (x, y, z) from hback] at cE2
      have cI := fun W => IsTriple_c x1 x2 x3 W
      have cR := fun W => refTriple_c x1 x2 x3 W
      rw [hx] at cI cR
      have em := eqm_self x y z
      obtain ⟨F, hF⟩ : ∃ F, x1 + x2 + x3 - y - z = F := ⟨_, rfl⟩
      rw [hF] at hi hd hn0 hn1
      obtain ⟨⟨a1, a2⟩, ⟨b1, b2⟩, ⟨c1, c2⟩⟩ := hx3
      obtain ⟨⟨d1, d2⟩, ⟨e1, e2⟩, ⟨f1, f2⟩⟩ := And.intro hbd.1 (And.intro hbd.2.1 hbd.2.2)
      have m1 := bd_mul (x := y) (y := y) ⟨by omega, by omega⟩ ⟨by omega, by omega⟩
      have m2 := bd_mul (x := z) (y := z) ⟨by omega, by omega⟩ ⟨by omega, by omega⟩
      have hcz : x ≠ 0 := by have := ((trB_iff _ _ _).1 htb).1; unfold ord at this; omega
      have q0 : IntKind.i64.wrap (y * y) = y * y := IntWalk.i64_in _ (by omega)
      have q1 : IntKind.i64.wrap (z * z) = z * z := IntWalk.i64_in _ (by omega)
      have q2 : IntKind.i64.wrap (y * y + z * z) = y * y + z * z := IntWalk.i64_in _ (by omega)
      have q3 : IntKind.i64.wrap (x1 + x2) = x1 + x2 := IntWalk.i64_in _ (by omega)
      have q4 : IntKind.i64.wrap (x1 + x2 + x3) = x1 + x2 + x3 := IntWalk.i64_in _ (by omega)
      have q5 : IntKind.i64.wrap (x1 + x2 + x3 - y) = x1 + x2 + x3 - y := IntWalk.i64_in _ (by omega)
      have q6 : IntKind.i64.wrap (x1 + x2 + x3 - y - z) = F := by rw [hF]; exact IntWalk.i64_in _ (by omega)
      have q7 : IntKind.i64.wrap F = F := IntWalk.i64_in _ (by omega)
      have hii : (x3 != F) = false := by simpa using hi
      have hnn0 : (x1 != F) = true := by simpa using hn0
      have hnn1 : (x2 != F) = true := by simpa using hn1
      have hm2 : (y * y + z * z) % x = 0 := by rw [← Int.tmod_eq_emod_of_nonneg (by omega)]; exact hm
      have hd2 : (y * y + z * z) / x = F := by rw [← Int.tdiv_eq_ediv_of_nonneg (by omega)]; exact hd
      have hg1 : ((y * y + z * z).tmod x != 0) = false := by simpa using hm
      have hg2 : ((y * y + z * z) % x != 0) = false := by simpa using hm2
      have hg3 : ((y * y + z * z).tdiv x != F) = false := by simpa using hd
      have hg4 : ((y * y + z * z) / x != F) = false := by simpa using hd2
      have q8 : IntKind.i64.wrap ((y * y + z * z).tdiv x) = F := by rw [hd]; exact q7
      have q9 : IntKind.i64.wrap ((y * y + z * z) / x) = F := by rw [hd2]; exact q7
      have HF := Lib.hid hF
      clear hmem ht htb hp1 hp2 hp3 hbd hback hi hx hx9 hxb hb2 a1 a2 b1 b2 c1 c2 d1 d2 e1 e2 f1 f2 hF m1 m2 hn0 hn1
      go_upto_region 9 with (first
        | (go_at_call 11; refine (cE _).mono ?_; rintro e w2 ⟨rfl, h2⟩; have k2 : Keeps w (w2.alloc (.cells #[.int .i64 x1, .int .i64 x2, .int .i64 x3] 22)) := Keeps.alloc (Keeps.next k1 h2) _; have hL2 := (hX.later h2).alloc (.cells #[.int .i64 x1, .int .i64 x2, .int .i64 x3] 22); have hX2 := At.new w2 22 #[.int .i64 x1, .int .i64 x2, .int .i64 x3]; have p1 := (row_six hX2).1; have p2 := (row_six hX2).2.1; have p3 := (row_six hX2).2.2.1)
        | (go_at_call 13; refine (cI _).mono ?_; rintro e w3 ⟨rfl, h3⟩; have k3 := Keeps.next k2 h3; have hL3 := hL2.later h3; have hX3 := hX2.later h3; have q1 := (row_six hX3).1; have q2 := (row_six hX3).2.1; have q3 := (row_six hX3).2.2.1)
        | (go_at_call 14; refine (cR _).mono ?_; rintro e w4 ⟨rfl, h4⟩; have k4 := Keeps.next k3 h4; have hL4 := hL3.later h4; have hX4 := hX3.later h4))
      have r1 := (row_six hL4).1
      have r2 := (row_six hL4).2.1
      have r3 := (row_six hL4).2.2.1
      have s1 := (row_six hX4).1
      have s2 := (row_six hX4).2.1
      have s3 := (row_six hX4).2.2.1
      go_quiet (fail)
      go_wp2_with fail
      go_loopw [14] (fun s14 wr => ∃ j : Nat, j ≤ 2 ∧ s14 = .int .i64 j ∧ Keeps w wr ∧ At wr w1.heap.size 22 #[.int .i64 x, .int .i64 y, .int .i64 z] ∧ At wr w2.heap.size 22 #[.int .i64 x1, .int .i64 x2, .int .i64 x3]) (fun s14 _ => 3 - (intOf s14).toNat)
      case atStart => exact ⟨0, by omega, rfl, below_drewN (n := nq) k4, hL4.drewN nq, hX4.drewN nq⟩
      case round =>
        obtain ⟨j, hj, rfl, hkr, hLr, hXr⟩ := hrel
        have u1 := (row_six hLr).1
        have u2 := (row_six hLr).2.1
        have u3 := (row_six hLr).2.2.1
        have y1 := (row_six hXr).1
        have y2 := (row_six hXr).2.1
        have y3 := (row_six hXr).2.2.1
        have hjc : j = 0 ∨ j = 1 ∨ j = 2 := by omega
        rcases hjc with rfl | rfl | rfl
        · go_wp2_with fail
          go_roundw
          case rel => exact ⟨1, by omega, by go_num, hkr, hLr, hXr⟩
          case measure => simp [intOf]
        · go_wp2_with fail
          go_roundw
          case rel => exact ⟨2, by omega, by go_num, hkr, hLr, hXr⟩
          case measure => simp [intOf]
        · go_wp2_with (first
            | (go_at_call 11; refine (cE2 _).mono ?_; rintro e w6 ⟨rfl, h6⟩; have k6 : Keeps w (w6.alloc (.cells #[.int .i64 x, .int .i64 y, .int .i64 z] 22)) := Keeps.alloc (Keeps.next hkr h6) _; have hL6 := (hLr.later h6).alloc (.cells #[.int .i64 x, .int .i64 y, .int .i64 z] 22); have hE6 := At.new w6 22 #[.int .i64 x, .int .i64 y, .int .i64 z]; have a1 := (row_six hL6).1; have a2 := (row_six hL6).2.1; have a3 := (row_six hL6).2.2.1; have b1 := (row_six hE6).1; have b2 := (row_six hE6).2.1; have b3 := (row_six hE6).2.2.1)
            | (go_at_call 12; refine (cA _).mono ?_; rintro e w7 ⟨rfl, h7⟩; have k7 := Keeps.next k6 h7))
          go_ret
          exact ⟨rfl, k7⟩
  · rcases v1 with hfull | hok
    · have cE := fun W => Exchange_1full x y z htb hfull W
      clear hmem ht htb hfull hp1 hp2 hp3 hbd
      go_wp2_with (first
        | (go_at_call 11; refine (cE _).mono ?_; rintro e w2 ⟨rfl, h2⟩; have k2 : Keeps w (w2.alloc (.cells #[.int .i64 0, .int .i64 0, .int .i64 0] 22)) := Keeps.alloc (Keeps.next k1 h2) _)
        | (go_at_call 12; refine (cA _).mono ?_; rintro e w3 ⟨rfl, h3⟩; have k3 := Keeps.next k2 h3))
      go_ret
      exact ⟨rfl, k3⟩
    · unfold okV at hok
      simp only [Bool.and_eq_true, decide_eq_true_eq] at hok
      obtain ⟨⟨hx, hback⟩, ⟨hi, hj⟩, hm, hd⟩ := hok
      have hxb : (exT (x, y, z) 1).2.2 ≤ 1000000000 := ((trB_iff _ _ _).1 hx).1.2.2.2
      have cE := fun W => Exchange_1ok x y z htb hxb W
      have hx9 : exT (x, y, z) 1 = rightT (x, y, z) := rfl
      have hm : (z * z + x * x).tmod y = 0 := hm
      have hd : (z * z + x * x).tdiv y = (exT (x, y, z) 1).1 + (exT (x, y, z) 1).2.1 + (exT (x, y, z) 1).2.2 - z - x := hd
      have hi : (exT (x, y, z) 1).2.2 = (exT (x, y, z) 1).1 + (exT (x, y, z) 1).2.1 + (exT (x, y, z) 1).2.2 - z - x := hi
      have hn0 : (exT (x, y, z) 1).1 ≠ (exT (x, y, z) 1).1 + (exT (x, y, z) 1).2.1 + (exT (x, y, z) 1).2.2 - z - x := of_decide_eq_true (List.all_eq_true.1 hj 0 (by decide))
      have hn1 : (exT (x, y, z) 1).2.1 ≠ (exT (x, y, z) 1).1 + (exT (x, y, z) 1).2.1 + (exT (x, y, z) 1).2.2 - z - x := of_decide_eq_true (List.all_eq_true.1 hj 1 (by decide))
      clear hj
      rw [hx9] at hx hback hi hd hxb hn0 hn1
      have hx3 := ((trB_iff _ _ _).1 hx).bds
      generalize rightT (x, y, z) = X at *
      obtain ⟨x1, x2, x3⟩ := X
      simp only at hx hback hi hd hxb cE hx3 hn0 hn1
      have hb2 : (upT (x1, x2, x3)).2.2 ≤ 1000000000 := by rw [show upT (x1, x2, x3) = (x, y, z) from hback]; exact (hbd.2.2).2
      have cE2 := fun W => Exchange_2ok x1 x2 x3 hx hb2 W
      rw [show upT (x1, x2, x3) = (x, y, z) from hback] at cE2
      have cI := fun W => IsTriple_c x1 x2 x3 W
      have cR := fun W => refTriple_c x1 x2 x3 W
      rw [hx] at cI cR
      have em := eqm_self x y z
      obtain ⟨F, hF⟩ : ∃ F, x1 + x2 + x3 - z - x = F := ⟨_, rfl⟩
      rw [hF] at hi hd hn0 hn1
      obtain ⟨⟨a1, a2⟩, ⟨b1, b2⟩, ⟨c1, c2⟩⟩ := hx3
      obtain ⟨⟨d1, d2⟩, ⟨e1, e2⟩, ⟨f1, f2⟩⟩ := And.intro hbd.1 (And.intro hbd.2.1 hbd.2.2)
      have m1 := bd_mul (x := z) (y := z) ⟨by omega, by omega⟩ ⟨by omega, by omega⟩
      have m2 := bd_mul (x := x) (y := x) ⟨by omega, by omega⟩ ⟨by omega, by omega⟩
      have hcz : y ≠ 0 := by have := ((trB_iff _ _ _).1 htb).1; unfold ord at this; omega
      have q0 : IntKind.i64.wrap (z * z) = z * z := IntWalk.i64_in _ (by omega)
      have q1 : IntKind.i64.wrap (x * x) = x * x := IntWalk.i64_in _ (by omega)
      have q2 : IntKind.i64.wrap (z * z + x * x) = z * z + x * x := IntWalk.i64_in _ (by omega)
      have q3 : IntKind.i64.wrap (x1 + x2) = x1 + x2 := IntWalk.i64_in _ (by omega)
      have q4 : IntKind.i64.wrap (x1 + x2 + x3) = x1 + x2 + x3 := IntWalk.i64_in _ (by omega)
      have q5 : IntKind.i64.wrap (x1 + x2 + x3 - z) = x1 + x2 + x3 - z := IntWalk.i64_in _ (by omega)
      have q6 : IntKind.i64.wrap (x1 + x2 + x3 - z - x) = F := by rw [hF]; exact IntWalk.i64_in _ (by omega)
      have q7 : IntKind.i64.wrap F = F := IntWalk.i64_in _ (by omega)
      have hii : (x3 != F) = false := by simpa using hi
      have hnn0 : (x1 != F) = true := by simpa using hn0
      have hnn1 : (x2 != F) = true := by simpa using hn1
      have hm2 : (z * z + x * x) % y = 0 := by rw [← Int.tmod_eq_emod_of_nonneg (by omega)]; exact hm
      have hd2 : (z * z + x * x) / y = F := by rw [← Int.tdiv_eq_ediv_of_nonneg (by omega)]; exact hd
      have hg1 : ((z * z + x * x).tmod y != 0) = false := by simpa using hm
      have hg2 : ((z * z + x * x) % y != 0) = false := by simpa using hm2
      have hg3 : ((z * z + x * x).tdiv y != F) = false := by simpa using hd
      have hg4 : ((z * z + x * x) / y != F) = false := by simpa using hd2
      have q8 : IntKind.i64.wrap ((z * z + x * x).tdiv y) = F := by rw [hd]; exact q7
      have q9 : IntKind.i64.wrap ((z * z + x * x) / y) = F := by rw [hd2]; exact q7
      have HF := Lib.hid hF
      clear hmem ht htb hp1 hp2 hp3 hbd hback hi hx hx9 hxb hb2 a1 a2 b1 b2 c1 c2 d1 d2 e1 e2 f1 f2 hF m1 m2 hn0 hn1
      go_upto_region 9 with (first
        | (go_at_call 11; refine (cE _).mono ?_; rintro e w2 ⟨rfl, h2⟩; have k2 : Keeps w (w2.alloc (.cells #[.int .i64 x1, .int .i64 x2, .int .i64 x3] 22)) := Keeps.alloc (Keeps.next k1 h2) _; have hL2 := (hX.later h2).alloc (.cells #[.int .i64 x1, .int .i64 x2, .int .i64 x3] 22); have hX2 := At.new w2 22 #[.int .i64 x1, .int .i64 x2, .int .i64 x3]; have p1 := (row_six hX2).1; have p2 := (row_six hX2).2.1; have p3 := (row_six hX2).2.2.1)
        | (go_at_call 13; refine (cI _).mono ?_; rintro e w3 ⟨rfl, h3⟩; have k3 := Keeps.next k2 h3; have hL3 := hL2.later h3; have hX3 := hX2.later h3; have q1 := (row_six hX3).1; have q2 := (row_six hX3).2.1; have q3 := (row_six hX3).2.2.1)
        | (go_at_call 14; refine (cR _).mono ?_; rintro e w4 ⟨rfl, h4⟩; have k4 := Keeps.next k3 h4; have hL4 := hL3.later h4; have hX4 := hX3.later h4))
      have r1 := (row_six hL4).1
      have r2 := (row_six hL4).2.1
      have r3 := (row_six hL4).2.2.1
      have s1 := (row_six hX4).1
      have s2 := (row_six hX4).2.1
      have s3 := (row_six hX4).2.2.1
      go_quiet (fail)
      go_wp2_with fail
      go_loopw [14] (fun s14 wr => ∃ j : Nat, j ≤ 2 ∧ s14 = .int .i64 j ∧ Keeps w wr ∧ At wr w1.heap.size 22 #[.int .i64 x, .int .i64 y, .int .i64 z] ∧ At wr w2.heap.size 22 #[.int .i64 x1, .int .i64 x2, .int .i64 x3]) (fun s14 _ => 3 - (intOf s14).toNat)
      case atStart => exact ⟨0, by omega, rfl, below_drewN (n := nq) k4, hL4.drewN nq, hX4.drewN nq⟩
      case round =>
        obtain ⟨j, hj, rfl, hkr, hLr, hXr⟩ := hrel
        have u1 := (row_six hLr).1
        have u2 := (row_six hLr).2.1
        have u3 := (row_six hLr).2.2.1
        have y1 := (row_six hXr).1
        have y2 := (row_six hXr).2.1
        have y3 := (row_six hXr).2.2.1
        have hjc : j = 0 ∨ j = 1 ∨ j = 2 := by omega
        rcases hjc with rfl | rfl | rfl
        · go_wp2_with fail
          go_roundw
          case rel => exact ⟨1, by omega, by go_num, hkr, hLr, hXr⟩
          case measure => simp [intOf]
        · go_wp2_with fail
          go_roundw
          case rel => exact ⟨2, by omega, by go_num, hkr, hLr, hXr⟩
          case measure => simp [intOf]
        · go_wp2_with (first
            | (go_at_call 11; refine (cE2 _).mono ?_; rintro e w6 ⟨rfl, h6⟩; have k6 : Keeps w (w6.alloc (.cells #[.int .i64 x, .int .i64 y, .int .i64 z] 22)) := Keeps.alloc (Keeps.next hkr h6) _; have hL6 := (hLr.later h6).alloc (.cells #[.int .i64 x, .int .i64 y, .int .i64 z] 22); have hE6 := At.new w6 22 #[.int .i64 x, .int .i64 y, .int .i64 z]; have a1 := (row_six hL6).1; have a2 := (row_six hL6).2.1; have a3 := (row_six hL6).2.2.1; have b1 := (row_six hE6).1; have b2 := (row_six hE6).2.1; have b3 := (row_six hE6).2.2.1)
            | (go_at_call 12; refine (cA _).mono ?_; rintro e w7 ⟨rfl, h7⟩; have k7 := Keeps.next k6 h7))
          go_ret
          exact ⟨rfl, k7⟩
  · rcases v2 with hok | hok
    · unfold okV at hok
      simp only [Bool.and_eq_true, decide_eq_true_eq] at hok
      obtain ⟨⟨hx, hback⟩, ⟨hi, hj⟩, hm, hd⟩ := hok
      have hxb : (exT (x, y, z) 2).2.2 ≤ 1000000000 := ((trB_iff _ _ _).1 hx).1.2.2.2
      have cE := fun W => Exchange_2ok x y z htb hxb W
      have hx9 : exT (x, y, z) 2 = upT (x, y, z) := rfl
      have hm : (x * x + y * y).tmod z = 0 := hm
      have hd : (x * x + y * y).tdiv z = (exT (x, y, z) 2).1 + (exT (x, y, z) 2).2.1 + (exT (x, y, z) 2).2.2 - x - y := hd
      have hi : (exT (x, y, z) 2).1 = (exT (x, y, z) 2).1 + (exT (x, y, z) 2).2.1 + (exT (x, y, z) 2).2.2 - x - y := hi
      clear hj
      rw [hx9] at hx hback hi hd hxb
      have hx3 := ((trB_iff _ _ _).1 hx).bds
      generalize upT (x, y, z) = X at *
      obtain ⟨x1, x2, x3⟩ := X
      simp only at hx hback hi hd hxb cE hx3
      have hb2 : (leftT (x1, x2, x3)).2.2 ≤ 1000000000 := by rw [show leftT (x1, x2, x3) = (x, y, z) from hback]; exact (hbd.2.2).2
      have cE2 := fun W => Exchange_0ok x1 x2 x3 hx hb2 W
      rw [show leftT (x1, x2, x3) = (x, y, z) from hback] at cE2
      have cI := fun W => IsTriple_c x1 x2 x3 W
      have cR := fun W => refTriple_c x1 x2 x3 W
      rw [hx] at cI cR
      have em := eqm_self x y z
      obtain ⟨F, hF⟩ : ∃ F, x1 + x2 + x3 - x - y = F := ⟨_, rfl⟩
      rw [hF] at hi hd
      obtain ⟨⟨a1, a2⟩, ⟨b1, b2⟩, ⟨c1, c2⟩⟩ := hx3
      obtain ⟨⟨d1, d2⟩, ⟨e1, e2⟩, ⟨f1, f2⟩⟩ := And.intro hbd.1 (And.intro hbd.2.1 hbd.2.2)
      have m1 := bd_mul (x := x) (y := x) ⟨by omega, by omega⟩ ⟨by omega, by omega⟩
      have m2 := bd_mul (x := y) (y := y) ⟨by omega, by omega⟩ ⟨by omega, by omega⟩
      have hcz : z ≠ 0 := by have := ((trB_iff _ _ _).1 htb).1; unfold ord at this; omega
      have q0 : IntKind.i64.wrap (x * x) = x * x := IntWalk.i64_in _ (by omega)
      have q1 : IntKind.i64.wrap (y * y) = y * y := IntWalk.i64_in _ (by omega)
      have q2 : IntKind.i64.wrap (x * x + y * y) = x * x + y * y := IntWalk.i64_in _ (by omega)
      have q3 : IntKind.i64.wrap (x1 + x2) = x1 + x2 := IntWalk.i64_in _ (by omega)
      have q4 : IntKind.i64.wrap (x1 + x2 + x3) = x1 + x2 + x3 := IntWalk.i64_in _ (by omega)
      have q5 : IntKind.i64.wrap (x1 + x2 + x3 - x) = x1 + x2 + x3 - x := IntWalk.i64_in _ (by omega)
      have q6 : IntKind.i64.wrap (x1 + x2 + x3 - x - y) = F := by rw [hF]; exact IntWalk.i64_in _ (by omega)
      have q7 : IntKind.i64.wrap F = F := IntWalk.i64_in _ (by omega)
      have hii : (x1 != F) = false := by simpa using hi
      have hm2 : (x * x + y * y) % z = 0 := by rw [← Int.tmod_eq_emod_of_nonneg (by omega)]; exact hm
      have hd2 : (x * x + y * y) / z = F := by rw [← Int.tdiv_eq_ediv_of_nonneg (by omega)]; exact hd
      have hg1 : ((x * x + y * y).tmod z != 0) = false := by simpa using hm
      have hg2 : ((x * x + y * y) % z != 0) = false := by simpa using hm2
      have hg3 : ((x * x + y * y).tdiv z != F) = false := by simpa using hd
      have hg4 : ((x * x + y * y) / z != F) = false := by simpa using hd2
      have q8 : IntKind.i64.wrap ((x * x + y * y).tdiv z) = F := by rw [hd]; exact q7
      have q9 : IntKind.i64.wrap ((x * x + y * y) / z) = F := by rw [hd2]; exact q7
      have HF := Lib.hid hF
      clear hmem ht htb hp1 hp2 hp3 hbd hback hi hx hx9 hxb hb2 a1 a2 b1 b2 c1 c2 d1 d2 e1 e2 f1 f2 hF m1 m2
      go_upto_region 9 with (first
        | (go_at_call 11; refine (cE _).mono ?_; rintro e w2 ⟨rfl, h2⟩; have k2 : Keeps w (w2.alloc (.cells #[.int .i64 x1, .int .i64 x2, .int .i64 x3] 22)) := Keeps.alloc (Keeps.next k1 h2) _; have hL2 := (hX.later h2).alloc (.cells #[.int .i64 x1, .int .i64 x2, .int .i64 x3] 22); have hX2 := At.new w2 22 #[.int .i64 x1, .int .i64 x2, .int .i64 x3]; have p1 := (row_six hX2).1; have p2 := (row_six hX2).2.1; have p3 := (row_six hX2).2.2.1)
        | (go_at_call 13; refine (cI _).mono ?_; rintro e w3 ⟨rfl, h3⟩; have k3 := Keeps.next k2 h3; have hL3 := hL2.later h3; have hX3 := hX2.later h3; have q1 := (row_six hX3).1; have q2 := (row_six hX3).2.1; have q3 := (row_six hX3).2.2.1)
        | (go_at_call 14; refine (cR _).mono ?_; rintro e w4 ⟨rfl, h4⟩; have k4 := Keeps.next k3 h4; have hL4 := hL3.later h4; have hX4 := hX3.later h4))
      have r1 := (row_six hL4).1
      have r2 := (row_six hL4).2.1
      have r3 := (row_six hL4).2.2.1
      have s1 := (row_six hX4).1
      have s2 := (row_six hX4).2.1
      have s3 := (row_six hX4).2.2.1
      go_quiet (fail)
      go_wp2_with fail
      go_loopw [14] (fun s14 wr => ∃ j : Nat, j ≤ 0 ∧ s14 = .int .i64 j ∧ Keeps w wr ∧ At wr w1.heap.size 22 #[.int .i64 x, .int .i64 y, .int .i64 z] ∧ At wr w2.heap.size 22 #[.int .i64 x1, .int .i64 x2, .int .i64 x3]) (fun s14 _ => 3 - (intOf s14).toNat)
      case atStart => exact ⟨0, by omega, rfl, below_drewN (n := nq) k4, hL4.drewN nq, hX4.drewN nq⟩
      case round =>
        obtain ⟨j, hj, rfl, hkr, hLr, hXr⟩ := hrel
        have u1 := (row_six hLr).1
        have u2 := (row_six hLr).2.1
        have u3 := (row_six hLr).2.2.1
        have y1 := (row_six hXr).1
        have y2 := (row_six hXr).2.1
        have y3 := (row_six hXr).2.2.1
        have hjc : j = 0 := by omega
        obtain rfl := hjc
        go_wp2_with (first
          | (go_at_call 11; refine (cE2 _).mono ?_; rintro e w6 ⟨rfl, h6⟩; have k6 : Keeps w (w6.alloc (.cells #[.int .i64 x, .int .i64 y, .int .i64 z] 22)) := Keeps.alloc (Keeps.next hkr h6) _; have hL6 := (hLr.later h6).alloc (.cells #[.int .i64 x, .int .i64 y, .int .i64 z] 22); have hE6 := At.new w6 22 #[.int .i64 x, .int .i64 y, .int .i64 z]; have a1 := (row_six hL6).1; have a2 := (row_six hL6).2.1; have a3 := (row_six hL6).2.2.1; have b1 := (row_six hE6).1; have b2 := (row_six hE6).2.1; have b3 := (row_six hE6).2.2.1)
          | (go_at_call 12; refine (cA _).mono ?_; rintro e w7 ⟨rfl, h7⟩; have k7 := Keeps.next k6 h7))
        go_ret
        exact ⟨rfl, k7⟩
    · unfold okV at hok
      simp only [Bool.and_eq_true, decide_eq_true_eq] at hok
      obtain ⟨⟨hx, hback⟩, ⟨hi, hj⟩, hm, hd⟩ := hok
      have hxb : (exT (x, y, z) 2).2.2 ≤ 1000000000 := ((trB_iff _ _ _).1 hx).1.2.2.2
      have cE := fun W => Exchange_2ok x y z htb hxb W
      have hx9 : exT (x, y, z) 2 = upT (x, y, z) := rfl
      have hm : (x * x + y * y).tmod z = 0 := hm
      have hd : (x * x + y * y).tdiv z = (exT (x, y, z) 2).1 + (exT (x, y, z) 2).2.1 + (exT (x, y, z) 2).2.2 - x - y := hd
      have hi : (exT (x, y, z) 2).2.1 = (exT (x, y, z) 2).1 + (exT (x, y, z) 2).2.1 + (exT (x, y, z) 2).2.2 - x - y := hi
      have hn0 : (exT (x, y, z) 2).1 ≠ (exT (x, y, z) 2).1 + (exT (x, y, z) 2).2.1 + (exT (x, y, z) 2).2.2 - x - y := of_decide_eq_true (List.all_eq_true.1 hj 0 (by decide))
      clear hj
      rw [hx9] at hx hback hi hd hxb hn0
      have hx3 := ((trB_iff _ _ _).1 hx).bds
      generalize upT (x, y, z) = X at *
      obtain ⟨x1, x2, x3⟩ := X
      simp only at hx hback hi hd hxb cE hx3 hn0
      have hb2 : (rightT (x1, x2, x3)).2.2 ≤ 1000000000 := by rw [show rightT (x1, x2, x3) = (x, y, z) from hback]; exact (hbd.2.2).2
      have cE2 := fun W => Exchange_1ok x1 x2 x3 hx hb2 W
      rw [show rightT (x1, x2, x3) = (x, y, z) from hback] at cE2
      have cI := fun W => IsTriple_c x1 x2 x3 W
      have cR := fun W => refTriple_c x1 x2 x3 W
      rw [hx] at cI cR
      have em := eqm_self x y z
      obtain ⟨F, hF⟩ : ∃ F, x1 + x2 + x3 - x - y = F := ⟨_, rfl⟩
      rw [hF] at hi hd hn0
      obtain ⟨⟨a1, a2⟩, ⟨b1, b2⟩, ⟨c1, c2⟩⟩ := hx3
      obtain ⟨⟨d1, d2⟩, ⟨e1, e2⟩, ⟨f1, f2⟩⟩ := And.intro hbd.1 (And.intro hbd.2.1 hbd.2.2)
      have m1 := bd_mul (x := x) (y := x) ⟨by omega, by omega⟩ ⟨by omega, by omega⟩
      have m2 := bd_mul (x := y) (y := y) ⟨by omega, by omega⟩ ⟨by omega, by omega⟩
      have hcz : z ≠ 0 := by have := ((trB_iff _ _ _).1 htb).1; unfold ord at this; omega
      have q0 : IntKind.i64.wrap (x * x) = x * x := IntWalk.i64_in _ (by omega)
      have q1 : IntKind.i64.wrap (y * y) = y * y := IntWalk.i64_in _ (by omega)
      have q2 : IntKind.i64.wrap (x * x + y * y) = x * x + y * y := IntWalk.i64_in _ (by omega)
      have q3 : IntKind.i64.wrap (x1 + x2) = x1 + x2 := IntWalk.i64_in _ (by omega)
      have q4 : IntKind.i64.wrap (x1 + x2 + x3) = x1 + x2 + x3 := IntWalk.i64_in _ (by omega)
      have q5 : IntKind.i64.wrap (x1 + x2 + x3 - x) = x1 + x2 + x3 - x := IntWalk.i64_in _ (by omega)
      have q6 : IntKind.i64.wrap (x1 + x2 + x3 - x - y) = F := by rw [hF]; exact IntWalk.i64_in _ (by omega)
      have q7 : IntKind.i64.wrap F = F := IntWalk.i64_in _ (by omega)
      have hii : (x2 != F) = false := by simpa using hi
      have hnn0 : (x1 != F) = true := by simpa using hn0
      have hm2 : (x * x + y * y) % z = 0 := by rw [← Int.tmod_eq_emod_of_nonneg (by omega)]; exact hm
      have hd2 : (x * x + y * y) / z = F := by rw [← Int.tdiv_eq_ediv_of_nonneg (by omega)]; exact hd
      have hg1 : ((x * x + y * y).tmod z != 0) = false := by simpa using hm
      have hg2 : ((x * x + y * y) % z != 0) = false := by simpa using hm2
      have hg3 : ((x * x + y * y).tdiv z != F) = false := by simpa using hd
      have hg4 : ((x * x + y * y) / z != F) = false := by simpa using hd2
      have q8 : IntKind.i64.wrap ((x * x + y * y).tdiv z) = F := by rw [hd]; exact q7
      have q9 : IntKind.i64.wrap ((x * x + y * y) / z) = F := by rw [hd2]; exact q7
      have HF := Lib.hid hF
      clear hmem ht htb hp1 hp2 hp3 hbd hback hi hx hx9 hxb hb2 a1 a2 b1 b2 c1 c2 d1 d2 e1 e2 f1 f2 hF m1 m2 hn0
      go_upto_region 9 with (first
        | (go_at_call 11; refine (cE _).mono ?_; rintro e w2 ⟨rfl, h2⟩; have k2 : Keeps w (w2.alloc (.cells #[.int .i64 x1, .int .i64 x2, .int .i64 x3] 22)) := Keeps.alloc (Keeps.next k1 h2) _; have hL2 := (hX.later h2).alloc (.cells #[.int .i64 x1, .int .i64 x2, .int .i64 x3] 22); have hX2 := At.new w2 22 #[.int .i64 x1, .int .i64 x2, .int .i64 x3]; have p1 := (row_six hX2).1; have p2 := (row_six hX2).2.1; have p3 := (row_six hX2).2.2.1)
        | (go_at_call 13; refine (cI _).mono ?_; rintro e w3 ⟨rfl, h3⟩; have k3 := Keeps.next k2 h3; have hL3 := hL2.later h3; have hX3 := hX2.later h3; have q1 := (row_six hX3).1; have q2 := (row_six hX3).2.1; have q3 := (row_six hX3).2.2.1)
        | (go_at_call 14; refine (cR _).mono ?_; rintro e w4 ⟨rfl, h4⟩; have k4 := Keeps.next k3 h4; have hL4 := hL3.later h4; have hX4 := hX3.later h4))
      have r1 := (row_six hL4).1
      have r2 := (row_six hL4).2.1
      have r3 := (row_six hL4).2.2.1
      have s1 := (row_six hX4).1
      have s2 := (row_six hX4).2.1
      have s3 := (row_six hX4).2.2.1
      go_quiet (fail)
      go_wp2_with fail
      go_loopw [14] (fun s14 wr => ∃ j : Nat, j ≤ 1 ∧ s14 = .int .i64 j ∧ Keeps w wr ∧ At wr w1.heap.size 22 #[.int .i64 x, .int .i64 y, .int .i64 z] ∧ At wr w2.heap.size 22 #[.int .i64 x1, .int .i64 x2, .int .i64 x3]) (fun s14 _ => 3 - (intOf s14).toNat)
      case atStart => exact ⟨0, by omega, rfl, below_drewN (n := nq) k4, hL4.drewN nq, hX4.drewN nq⟩
      case round =>
        obtain ⟨j, hj, rfl, hkr, hLr, hXr⟩ := hrel
        have u1 := (row_six hLr).1
        have u2 := (row_six hLr).2.1
        have u3 := (row_six hLr).2.2.1
        have y1 := (row_six hXr).1
        have y2 := (row_six hXr).2.1
        have y3 := (row_six hXr).2.2.1
        have hjc : j = 0 ∨ j = 1 := by omega
        rcases hjc with rfl | rfl
        · go_wp2_with fail
          go_roundw
          case rel => exact ⟨1, by omega, by go_num, hkr, hLr, hXr⟩
          case measure => simp [intOf]
        · go_wp2_with (first
            | (go_at_call 11; refine (cE2 _).mono ?_; rintro e w6 ⟨rfl, h6⟩; have k6 : Keeps w (w6.alloc (.cells #[.int .i64 x, .int .i64 y, .int .i64 z] 22)) := Keeps.alloc (Keeps.next hkr h6) _; have hL6 := (hLr.later h6).alloc (.cells #[.int .i64 x, .int .i64 y, .int .i64 z] 22); have hE6 := At.new w6 22 #[.int .i64 x, .int .i64 y, .int .i64 z]; have a1 := (row_six hL6).1; have a2 := (row_six hL6).2.1; have a3 := (row_six hL6).2.2.1; have b1 := (row_six hE6).1; have b2 := (row_six hE6).2.1; have b3 := (row_six hE6).2.2.1)
            | (go_at_call 12; refine (cA _).mono ?_; rintro e w7 ⟨rfl, h7⟩; have k7 := Keeps.next k6 h7))
          go_ret
          exact ⟨rfl, k7⟩
end Go.Proofs.YteffkcnlipdgaaaDoor
