/- The reference's Climb. -/
import Derived.Test.YtkecigfgggeleaaEa
namespace Go.Proofs.Ytkecigfgggeleaa
open Go.RowKit Go.Shelf
set_option linter.unusedVariables false
set_option linter.unusedSimpArgs false

theorem dgn_range (l : List Ed) (S d k : Nat) (hk : k < d) : nth ((List.range d).map (dgn l S)) k = dgn l S k := by unfold nth; simp [hk]
theorem fpos_dgn (S d : Nat) (hd : d ≤ 12) (l : List Ed) (hbl : below d l) (hT : edgesT l) :
    (fpos (gnL S l) = -1 ∧ ∀ j, j < d → dgn l S j ≤ 0) ∨ ∃ k : Nat, k < d ∧ fpos (gnL S l) = k ∧ 0 < dgn l S k ∧ ∀ j, j < k → dgn l S j ≤ 0 := by
  have hlen := gnL_len S l
  rcases fpos_cases (gnL S l) with ⟨h1, h2⟩ | ⟨k, h1, h2, h3, h4⟩
  · exact .inl ⟨h1, fun j hj => by rw [← nth_dgn S j (by omega) l hT]; exact h2 j (by omega)⟩
  · rw [hlen] at h1
    rw [nth_dgn S k h1 l hT] at h3
    have hkd : k < d := by
      by_cases e : k < d
      · exact e
      · rw [dgn_out S d k hd (by omega) h1 l hbl] at h3; omega
    exact .inr ⟨k, hkd, h2, h3, fun j hj => by rw [← nth_dgn S j (by omega) l hT]; exact h4 j hj⟩
set_option maxHeartbeats 4000000 in
set_option maxRecDepth 100000 in
theorem rclimb_c (v : Value) (l : List Ed) (S d : Nat) (hS : S < 65536) (hd : d ≤ 12) (hE : edgesOk l) (hbl : below d l) (hT : edgesT l) (w : World) (hv : RdE w v l) :
    Calls Try.prog 24 #[v, .string (TX S d)] w fun e w' => e = .returned (.tuple #[.string (TX (clmb l S).1 d), .int .i64 (clmb l S).2]) ∧ Keeps w w' := by
  have hga := fun S X (hX : Keeps w X) => rgains_T v l S d hd hE hbl X (hv.below hX)
  obtain ⟨C, hC⟩ : ∃ C, C = clmb l S := ⟨_, rfl⟩
  rw [← hC]
  have HC := Lib.hid hC
  clear hC
  go_enter Try.func24, Try.ntmps24
  go_wp2_with fail
  go_loopw [1, 6] (fun s q wr => ∃ (S' k f : Nat), S' < 65536 ∧ s = .string (TX S' d) ∧ q = .int .i64 k ∧ clm l f S' k = C ∧ 5000 - valL S' l < f ∧ k + f ≤ 10001 ∧ Keeps w wr) (fun _ q _ => 10001 - (intOf q).toNat)
  case atStart => exact ⟨S, 0, 10001, hS, rfl, rfl, HC.out.symm, by have := (val_in S l hE).1; omega, by omega, Below.refl _ _⟩
  case round =>
    obtain ⟨S', k, f, hS', rfl, rfl, hcl, hvf, hkf, hb⟩ := hrel
    have hvi := val_in S' l hE
    have hsz := TX_size S' d
    have hln : ((List.range d).map (dgn l S')).length = d := by rw [List.length_map, List.length_range]
    go_wp2_with (go_at_call 41; refine (hga S' _ hb).mono ?_; rintro e w1 ⟨u, rfl, hr1, hb1⟩)
    generalize wr = w3 at *
    obtain ⟨A, c, rfl, hm, hcs⟩ := id hr1
    rw [hln] at *
    have Hcs := Lib.hid hcs
    have Hfp := Lib.hid (fpos_dgn S' d hd l hbl hT)
    have Hvb := Lib.hid (fun x => val_in x l hE)
    have Hcl := Lib.hid hcl
    have Hvf := Lib.hid hvf
    clear hcs hm hcl hr1 hvf hvi
    go_loopw [8] (fun i wr => ∃ j : Nat, j ≤ d ∧ i = .int .i64 j ∧ (∀ m, m < j → dgn l S' m ≤ 0) ∧ Keeps w1 wr) (fun i _ => d - (intOf i).toNat)
    case atStart => exact ⟨0, Nat.zero_le _, rfl, fun m h => by omega, Below.refl _ _⟩
    case round =>
      obtain ⟨j, hj, rfl, hneg, hb4⟩ := hrel
      have Hneg := Lib.hid hneg
      clear hneg
      by_cases hjd : j < d
      · obtain ⟨b, off, u8, rfl, hcell, rfl⟩ := Hcs.out j hjd
        rw [dgn_range l S' d j hjd] at hcell
        have hc4 := cell_keep hcell hb4
        have hjI : (j : Int) < (d : Int) := by omega
        have hjne : ((j : Int) == (d : Int)) = false := by simp; omega
        have Hv := Lib.hid (show dgn l S' j = valL (flp S' j) l - valL S' l from rfl)
        by_cases hpos : dgn l S' j ≤ 0
        · obtain ⟨D, hD⟩ : ∃ D, dgn l S' j = D := ⟨_, rfl⟩
          rw [hD] at hc4 hpos
          have HD := Lib.hid hD
          clear hD hcell
          go_wp2_with fail
          go_roundw
          case rel =>
            refine ⟨j + 1, by omega, by go_num, fun m hm => ?_, hb4⟩
            by_cases e : m = j
            · subst e; rw [HD.out]; exact hpos
            · exact Hneg.out m (by omega)
          case measure => simp [intOf]; omega
        · obtain ⟨D, hD⟩ : ∃ D, dgn l S' j = D := ⟨_, rfl⟩
          rw [hD] at hc4 hpos
          have HD := Lib.hid hD
          clear hD hcell
          have hfl := fun X => rflip_T S' d j hd hjd X
          have Hf := Lib.hid (flp_in S' j hS')
          have Hstep : Hid (∃ f', f = f' + 1 ∧ clm l f' (flp S' j) (k + 1) = C ∧ 5000 - valL (flp S' j) l < f') := by
            refine Lib.hid ?_
            have h1 := Hvf.out
            have h2 := (Hvb.out (flp S' j)).2
            have h3 := Hv.out
            rw [HD.out] at h3
            refine ⟨f - 1, by omega, ?_, by omega⟩
            rcases Hfp.out with ⟨_, h⟩ | ⟨p, h4, h5, h6, h7⟩
            · have := h j hjd; rw [HD.out] at this; omega
            · obtain rfl : p = j := by
                rcases Nat.lt_trichotomy p j with h | h | h
                · have := Hneg.out p h; omega
                · exact h
                · have := h7 j h; rw [HD.out] at this; omega
              rw [← Hcl.out]
              obtain ⟨f9, rfl⟩ : ∃ f9, f = f9 + 1 := ⟨f - 1, by omega⟩
              rw [Nat.add_sub_cancel]
              show _ = if 0 ≤ fpos (gnL S' l) then clm l f9 (flp S' (fpos (gnL S' l)).toNat) (k + 1) else (S', k)
              rw [h5, if_pos (by omega), Int.toNat_natCast]
          generalize flp S' j = S2 at *
          clear Hv
          go_wp2_with (go_at_call 20; refine (hfl _).mono ?_; rintro e w5 ⟨rfl, m5, rfl⟩)
          obtain ⟨f', rfl, h2, h3⟩ := Hstep.out
          go_roundw
          case rel => exact ⟨S2, k + 1, f', Hf.out, rfl, by go_num, h2, h3, by omega, below_drewN ((hb.next hb1).next hb4)⟩
          case measure => simp [intOf]; omega
      · obtain rfl : j = d := by omega
        have Hend : Hid (C = (S', k)) := by
          refine Lib.hid ?_
          rcases Hfp.out with ⟨h, _⟩ | ⟨p, h4, _, h6, _⟩
          · rw [← Hcl.out, clm_end l f S' k (by omega)]
          · have := Hneg.out p h4; omega
        go_wp2_with fail
        go_ret2
        exact ⟨by rw [Hend.out]; rfl, (hb.next hb1).next hb4⟩
end Go.Proofs.Ytkecigfgggeleaa
