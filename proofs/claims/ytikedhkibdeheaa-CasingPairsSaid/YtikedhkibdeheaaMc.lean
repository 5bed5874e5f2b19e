/- The law on tables of two sheets and factors. -/
import Derived.Test.YtikedhkibdeheaaNd
namespace Go.Proofs.Ytikedhkibdeheaa
open Go.RowKit
set_option linter.unusedVariables false

set_option maxHeartbeats 4000000 in
set_option maxRecDepth 100000 in
theorem pairs_walk (x : Int) (hx : (Lit.int .i64 x).wf = true) (g : Nat) (hg : (g : Int) = 1 + modN x 2) (v : Value) (l : List ByteArray) (w : World) (hv : RdS w v l) (hz : szOk l) (hP : PairsOk (facL g (rulesL g l)) (facN g (rulesL g l)) (countN g 2 (rulesL g l))) :
    Calls Try.prog 5 #[.int .i64 x, v] w fun e w' => e = .returned (.bool true) ∧ Keeps w w' := by
  have hru := rules_c x hx g hg v l hz w hv
  have hg12 : g = 1 ∨ g = 2 := by have := modN_in x 2 (by omega); omega
  have hG := rulesL_ok g hg12 l
  have hRz := rulesL_sz g l
  generalize rulesL g l = R at *
  have hgood : goodB g 2 R = true := by simp [goodB, hG, sheetsB]
  have hcnt := fun y u hx => count_c g 2 u R hRz y hx
  have hfac := fun y u hx hc => factors_c g u R hRz y hx hc
  rw [hgood] at hcnt
  rw [hG] at hfac
  obtain ⟨e0, he1, he2, he3, hlen, hN0, hfx, hfd⟩ := hP
  generalize countN g 2 R = n at *
  generalize facL g R = L at *
  generalize facN g R = N at *
  have hcode : codeN true = 0 := rfl
  rw [hcode] at hcnt hfac
  have hL2 : L.length ≤ 2 := by omega
  have hN2 : N ≤ 2 := by omega
  have Hfx := Lib.hid hfx
  have Hfd := Lib.hid hfd
  have He1 := Lib.hid he1
  have He3 := Lib.hid he3
  clear hgood hG hcode hfx hfd he1 he3 hg
  go_enter Try.func5, Try.ntmps5
  go_wp2_with (
    first
    | (go_at_call 14; refine hru.mono ?_; rintro e w1 ⟨u, rfl, hr1, hc1, hb1⟩; obtain ⟨A1, k1, rfl, -, -⟩ := id hr1)
    | (
      refine wpList_store_row rfl 25 _ _ rfl w1.heap.size _ rfl rfl 25 #[.int .i64 0, .slice none 0 0] (At.new w1 25 #[.int .i64 0, .slice none 0 0]) (sizeG _ _) rfl (grp_one _ _ rfl) ?_
      have hk1 : Keeps w1 ((w1.alloc (.cells #[.int .i64 0, .slice none 0 0] 25)).setRow w1.heap.size #[.int .i64 g, .slice A1 R.length k1]) := below_row (Keeps.alloc (Below.refl _ _) _) (Nat.le_refl _) _
      have hat2 : At ((w1.alloc (.cells #[.int .i64 0, .slice none 0 0] 25)).setRow w1.heap.size #[.int .i64 g, .slice A1 R.length k1]) w1.heap.size 25 #[.int .i64 g, .slice A1 R.length k1] := (At.new w1 25 #[.int .i64 0, .slice none 0 0]).row _
      have hr2 := hr1.below hk1
      have hkw2 : Keeps w _ := Keeps.next hb1 hk1
      generalize (w1.alloc (.cells #[.int .i64 0, .slice none 0 0] 25)).setRow w1.heap.size #[.int .i64 g, .slice A1 R.length k1] = w2 at *
      generalize w1.heap.size = bg at *
      clear hr1 hk1 hb1)
    | (refine wpList_load_row rfl 25 _ rfl bg rfl 25 _ (0, 0) _ (by assumption) Try.underlying25 rfl (sizeG _ _) ?_)
    | (go_at_call 12; refine (hcnt _ _ hr2).mono ?_; rintro e w3 ⟨rfl, hb3⟩; have hat3 := hat2.later hb3; have hr3 := hr2.below hb3; have hkw3 := Keeps.next hkw2 hb3; clear hat2 hr2 hcnt)
    | (go_at_call 15; refine (hfac _ _ hr3 hc1).mono ?_; rintro e w4 ⟨u4, rfl, hu4, hb4⟩; have hui : RdI w4 u4 L := RdB.rd hu4 (fun _ _ h => h); have hkw4 := Keeps.next hkw3 hb4; obtain ⟨A5, k5, rfl, -, -⟩ := id hui; clear hat3 hr3 hu4 hfac))
  go_loopw [11, 12] (fun a i wr => ∃ k : Nat, k ≤ L.length ∧ i = .int .i64 k ∧ a = .int .i64 (N + evN (L.take k)) ∧ ∃ m, wr = w4.drewN m) (fun _ i _ => L.length - (intOf i).toNat)
  case atStart => exact ⟨0, Nat.zero_le _, rfl, by show _ = Value.int .i64 (N + evN []); rw [show evN [] = 0 from rfl, Int.add_zero], 0, rfl⟩
  case round =>
    obtain ⟨k, hk, rfl, rfl, m, rfl⟩ := hrel
    obtain ⟨ev0, ev1⟩ := evN_le (L.take k)
    have evk : evN (L.take k) ≤ k := by have := List.length_take_le k L; omega
    by_cases hlt : k < L.length
    · obtain ⟨_, _, hv5, hm5, hcs⟩ := id hui
      cases hv5
      have hxk := Hfx.out k hlt
      obtain ⟨x1, x2⟩ := hxk
      have Hs := Lib.hid (evN_snoc L k hlt)
      have hk01 : k = 0 ∨ k = 1 := by omega
      unfold maxLen at hm5
      rcases hk01 with rfl | rfl
      · obtain ⟨b, off, u, rfl, hc0, rfl⟩ := hcs 0 hlt
        rw [Nat.add_zero] at hc0
        rw [show ((0 : Nat) : Int) = 0 from rfl]
        clear hcs hui
        generalize nth L 0 = y at *
        have hp := par2 y
        have hy2 : decide (y < 2) = false := by simp; omega
        generalize evN (L.take 0) = ev at *
        rcases hp with hp | hp
        · have Hp := Lib.hid hp
          have hpb : (y % 2 == 0) = true := by simp [hp]
          clear hp
          go_wp2_with fail
          go_quiet (fail)
          go_wp2_with fail
          go_roundw
          case rel => exact ⟨1, by omega, by go_num, by rw [Hs.out, if_pos Hp.out, Int.add_assoc], m + nq, by first | rfl | exact World.drewN_drewN _ _ _⟩
          case measure => simp [intOf]; omega
        · have Hp := Lib.hid hp
          have hpb : (y % 2 == 0) = false := by simp [hp]
          clear hp
          go_wp2_with fail
          go_quiet (fail)
          go_wp2_with fail
          go_roundw
          case rel => exact ⟨1, by omega, by go_num, by rw [Hs.out, if_neg (by have := Hp.out; omega), Int.add_zero], m + nq, by first | rfl | exact World.drewN_drewN _ _ _⟩
          case measure => simp [intOf]; omega
      · obtain ⟨b, off, u, rfl, hc1', rfl⟩ := hcs 1 hlt
        obtain ⟨b', off', u', hA', hc0', rfl⟩ := hcs 0 (by omega)
        cases hA'
        have hdv := Hfd.out 1 (by omega) hlt
        have hx0 := Hfx.out 0 (by omega)
        obtain ⟨z1, z2⟩ := hx0
        rw [Nat.add_zero] at hc0'
        rw [show ((1 : Nat) : Int) = 1 from rfl]
        rw [show 1 - 1 = 0 from rfl] at hdv
        clear hcs hui
        generalize nth L 0 = z at *
        generalize nth L 1 = y at *
        have hp := par2 y
        have hy2 : decide (y < 2) = false := by simp; omega
        have hyz : (y % z != 0) = false := by simp [hdv]
        clear hdv
        generalize evN (L.take 1) = ev at *
        rcases hp with hp | hp
        · have Hp := Lib.hid hp
          have hpb : (y % 2 == 0) = true := by simp [hp]
          clear hp
          go_wp2_with fail
          go_quiet (fail)
          go_wp2_with fail
          go_roundw
          case rel => exact ⟨2, by omega, by go_num, by rw [Hs.out, if_pos Hp.out, Int.add_assoc], m + nq, by first | rfl | exact World.drewN_drewN _ _ _⟩
          case measure => simp [intOf]; omega
        · have Hp := Lib.hid hp
          have hpb : (y % 2 == 0) = false := by simp [hp]
          clear hp
          go_wp2_with fail
          go_quiet (fail)
          go_wp2_with fail
          go_roundw
          case rel => exact ⟨2, by omega, by go_num, by rw [Hs.out, if_neg (by have := Hp.out; omega), Int.add_zero], m + nq, by first | rfl | exact World.drewN_drewN _ _ _⟩
          case measure => simp [intOf]; omega
    · obtain rfl : k = L.length := by omega
      rw [List.take_length] at *
      rw [He1.out]
      have hn := He3.out
      have hkd : Keeps w (w4.drewN m) := Keeps.next hkw4 (keeps_drewN _ _)
      generalize w4.drewN m = w5 at *
      clear hui
      have he3 : e0 = 0 ∨ e0 = 1 ∨ e0 = 2 := by omega
      clear He1 He3
      rcases he3 with rfl | rfl | rfl
      · obtain rfl : n = 0 := hn
        rw [show ((0 : Nat) : Int) = 0 from rfl]
        go_wp2_with (go_at_call 13; refine (awake_c _).mono ?_; rintro e w7 ⟨rfl, hb7⟩)
        go_ret
        exact ⟨rfl, Keeps.next hkd hb7⟩
      · obtain rfl : n = 1 := hn
        rw [show ((1 : Nat) : Int) = 1 from rfl]
        go_wp2_with (go_at_call 13; refine (awake_c _).mono ?_; rintro e w7 ⟨rfl, hb7⟩)
        go_ret
        exact ⟨rfl, Keeps.next hkd hb7⟩
      · obtain rfl : n = 3 := hn
        rw [show ((2 : Nat) : Int) = 2 from rfl]
        go_wp2_with (go_at_call 13; refine (awake_c _).mono ?_; rintro e w7 ⟨rfl, hb7⟩)
        go_ret
        exact ⟨rfl, Keeps.next hkd hb7⟩

theorem law_pairs (x : Int) (v : Value) (l : List ByteArray) (w : World) (hx : (Lit.int .i64 x).wf = true) (hv : RdS w v l) (hz : szOk l) (_ : Cap v) :
    Calls Try.prog 5 #[.int .i64 x, v] w fun e w' => e = .returned (.bool true) ∧ Keeps w w' := by
  obtain ⟨m0, m1⟩ := modN_in x 2 (by omega)
  have hc : modN x 2 = 0 ∨ modN x 2 = 1 := by omega
  rcases hc with h | h
  · exact pairs_walk x hx 1 (by rw [h]; rfl) v l w hv hz (pairs_g1 _ (rulesL_ok 1 (.inl rfl) l))
  · exact pairs_walk x hx 2 (by rw [h]; rfl) v l w hv hz (pairs_g2 _ (rulesL_ok 2 (.inr rfl) l))
end Go.Proofs.Ytikedhkibdeheaa
