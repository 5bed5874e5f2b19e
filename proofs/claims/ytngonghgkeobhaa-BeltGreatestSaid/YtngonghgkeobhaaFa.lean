/- Turned sides. -/
import Derived.Test.YtngonghgkeobhaaEk
import Derived.Test.YtngonghgkeobhaaEm
namespace Go.Proofs.Ytngonghgkeobhaa
open Go.RowKit Go.Shelf
set_option linter.unusedVariables false
set_option linter.unusedSimpArgs false

theorem hs_xor (S T u : Nat) : hs (S ^^^ T) u = (hs S u != hs T u) := by
  unfold hs
  rw [Nat.testBit_xor]
theorem chT_one (S k : Nat) : ((chT S k).toNat : Int) = if hs S k = true then 49 else 48 := by unfold chT; split <;> rfl
set_option maxHeartbeats 2000000 in
set_option maxRecDepth 100000 in
theorem turned_c (S T d : Nat) (hd : d ≤ 12) (w : World) :
    Calls Try.prog 14 #[.string (TX S d), .string (TX T d)] w fun e w' => e = .returned (.string (TX (S ^^^ T) d)) ∧ Keeps w w' := by
  have hfl := fun Z i (hi : i < d) X => rflip_T Z d i hd hi X
  have Hxor := Lib.hid (hs_xor S T)
  obtain ⟨R, hR⟩ : ∃ R, S ^^^ T = R := ⟨_, rfl⟩
  rw [hR] at Hxor ⊢
  clear hR
  go_enter Try.func14, Try.ntmps14
  go_wp2_with fail
  go_loopw [0, 5] (fun s i wr => ∃ (k Z : Nat), k ≤ d ∧ i = .int .i64 k ∧ s = .string (TX Z d) ∧ (∀ u, u < d → hs Z u = if u < k then hs R u else hs S u) ∧ Keeps w wr) (fun _ i _ => d - (intOf i).toNat)
  case atStart => exact ⟨0, S, Nat.zero_le _, rfl, rfl, fun u _ => by rw [if_neg (by omega)], Below.refl _ _⟩
  case round =>
    obtain ⟨k, Z, hk, rfl, rfl, hZ, hb⟩ := hrel
    have HZ := Lib.hid hZ
    clear hZ
    have hsz := TX_size Z d
    have hszT := TX_size T d
    by_cases hlt : k < d
    · have hkI : (k : Int) < (d : Int) := by omega
      have hkI2 : (k : Int) < ((TX Z d).size : Int) := by rw [hsz]; omega
      have hch : ∀ h', (((TX T d)[k]'h').toNat : Int) = if hs T k = true then 49 else 48 := fun h' => by rw [TX_get T d k hlt h']; exact chT_one T k
      have hx := Hxor.out k
      cases hT : hs T k with
      | false =>
        rw [hT] at hch hx
        rw [if_neg (by simp)] at hch
        have Hx := Lib.hid hx
        clear hx hT
        go_wp2_with fail
        go_roundw
        case rel =>
          refine ⟨k + 1, Z, by omega, by go_num, rfl, fun u hu => ?_, hb⟩
          rw [HZ.out u hu]
          by_cases e : u = k
          · subst e; rw [if_neg (by omega), if_pos (by omega), Hx.out]; simp
          · by_cases e2 : u < k
            · rw [if_pos e2, if_pos (by omega)]
            · rw [if_neg e2, if_neg (by omega)]
        case measure => simp [intOf]; omega
      | true =>
        rw [hT] at hch hx
        rw [if_pos rfl] at hch
        have Hx := Lib.hid hx
        have hfk := hfl Z k hlt
        have Hfl := Lib.hid (fun u (hu : u < 12) => hs_flp Z k u (by omega) hu)
        clear hx hT hfl
        go_wp2_with (go_at_call 37; refine (hfk _).mono ?_; rintro e w5 ⟨rfl, m5, rfl⟩)
        go_roundw
        case rel =>
          refine ⟨k + 1, flp Z k, by omega, by go_num, rfl, fun u hu => ?_, below_drewN hb⟩
          rw [Hfl.out u (by omega), HZ.out u hu]
          by_cases e : u = k
          · subst e; rw [if_pos rfl, if_neg (by omega), if_pos (by omega), Hx.out]; simp
          · rw [if_neg e]
            by_cases e2 : u < k
            · rw [if_pos e2, if_pos (by omega)]
            · rw [if_neg e2, if_neg (by omega)]
        case measure => simp [intOf]; omega
    · obtain rfl : k = d := by omega
      have Hcg := Lib.hid (TX_congr Z R k (fun u hu => by rw [HZ.out u hu, if_pos hu]))
      go_wp2_with fail
      go_ret
      exact ⟨by rw [← Hcg.out]; rfl, hb⟩
/-- The side of which all characters are 1. -/
theorem sdN_ones (d u : Nat) (hd : d ≤ 12) (hu : u < d) : hs (sdN (-1) d) u = true := by
  have hm : (modN (-1) 4096).toNat = 4095 := by decide
  unfold sdN
  rw [hm, hs_rdS _ d hd u (by omega)]
  have h1 : (sdT 4095 d)[u]? = some (sdC 4095 u) := by simp [sdT, hu]
  have h2 : sdC 4095 u = 49 := by
    have : u < 12 := by omega
    unfold sdC
    rw [if_pos]
    have key : ∀ u, u < 12 → 4095 / 2 ^ u % 2 = 1 := by decide
    exact key u this
  rw [h1, h2]
  simp [hu]
theorem opp_TX (S d : Nat) (hd : d ≤ 12) : TX (S ^^^ sdN (-1) d) d = TX (opp S) d := TX_congr _ _ d fun u hu => by
  rw [hs_xor, sdN_ones d u hd hu, hs_opp S u (by omega)]; cases hs S u <;> rfl
theorem flp_opp (S S' d i : Nat) (hd : d ≤ 12) (hi : i < 12) (h : ∀ u, u < d → hs S' u = !hs S u) (u : Nat) (hu : u < d) : hs (flp S' i) u = !hs (flp S i) u := by
  rw [hs_flp S' i u hi (by omega), hs_flp S i u hi (by omega), h u hu]
  split <;> rfl
theorem valL_not (S S' d : Nat) (l : List Ed) (hl : below d l) (h : ∀ u, u < d → hs S' u = !hs S u) : valL S' l = valL S l := valL_wgt _ _ l fun x hx => by
  have := hl x hx
  unfold wgt
  rw [h _ (by omega), h _ (by omega)]
  cases hs S x.1.toNat <;> cases hs S x.2.1.toNat <;> rfl
theorem dgn_not (S S' d i : Nat) (hd : d ≤ 12) (hi : i < 12) (l : List Ed) (hl : below d l) (h : ∀ u, u < d → hs S' u = !hs S u) : dgn l S' i = dgn l S i := by
  unfold dgn
  rw [valL_not S S' d l hl h, valL_not (flp S i) (flp S' i) d l hl (flp_opp S S' d i hd hi h)]
theorem clm_not (d : Nat) (hd : d ≤ 12) (l : List Ed) (hl : below d l) (hT : edgesT l) : ∀ (f S S' k : Nat), (∀ u, u < d → hs S' u = !hs S u) → (clm l f S' k).2 = (clm l f S k).2 ∧ ∀ u, u < d → hs (clm l f S' k).1 u = !hs (clm l f S k).1 u
  | 0, S, S', k, h => ⟨rfl, h⟩
  | f + 1, S, S', k, h => by
    have e : gnL S' l = gnL S l := by
      apply nth_ext'
      · rw [gnL_len, gnL_len]
      · intro i hi
        rw [gnL_len] at hi
        rw [nth_dgn S' i hi l hT, nth_dgn S i hi l hT, dgn_not S S' d i hd hi l hl h]
    unfold clm
    rw [e]
    by_cases hp : 0 ≤ fpos (gnL S l)
    · rw [if_pos hp, if_pos hp]
      refine clm_not d hd l hl hT f _ _ _ (flp_opp S S' d _ hd ?_ h)
      rcases fpos_lt S l with h1 | ⟨p, h1, h2, _⟩
      · omega
      · rw [h2, Int.toNat_natCast]; exact h1
    · rw [if_neg hp, if_neg hp]
      exact ⟨rfl, h⟩
theorem clmb_opp (d : Nat) (hd : d ≤ 12) (l : List Ed) (hl : below d l) (hT : edgesT l) (S : Nat) : (clmb l (opp S)).2 = (clmb l S).2 ∧ TX (clmb l (opp S)).1 d = TX (opp (clmb l S).1) d := by
  obtain ⟨h1, h2⟩ := clm_not d hd l hl hT 10001 S (opp S) 0 (fun u hu => hs_opp S u (by omega))
  exact ⟨h1, TX_congr _ _ d fun u hu => by rw [hs_opp _ u (by omega)]; exact h2 u hu⟩
end Go.Proofs.Ytngonghgkeobhaa
