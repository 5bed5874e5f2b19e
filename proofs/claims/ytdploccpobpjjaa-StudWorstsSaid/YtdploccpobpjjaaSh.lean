/- The walks of isPrime, powersOf, logsOf, isRoot. -/
import Derived.Test.YtdploccpobpjjaaSd
namespace Go.Proofs.Ytdploccpobpjjaa
open Go.RowKit Go.Shelf
set_option linter.unusedVariables false

/-- The primes from 3 to 17. -/
def primeB (p : Int) : Bool := decide (3 ≤ p ∧ p ≤ 17) && (List.range' 2 (p.toNat - 2)).all fun d => decide (p % (d : Int) ≠ 0)
set_option maxHeartbeats 1000000 in
theorem isPrime_c (p : Int) (w : World) : Calls Try.prog 35 #[.int .i64 p] w fun e w' => e = .returned (.bool (primeB p)) ∧ w = w' := by
  by_cases h3 : p < 3
  · have hb : primeB p = false := by simp [primeB]; omega
    rw [hb]
    clear hb
    go_enter Try.func35, Try.ntmps35
    go_wp2_with fail
    go_ret
    exact ⟨rfl, rfl⟩
  · by_cases h17 : 17 < p
    · have hb : primeB p = false := by simp [primeB]; omega
      rw [hb]
      have hd : decide (p < 3) = false := by simpa using h3
      clear hb
      go_enter Try.func35, Try.ntmps35
      go_wp2_with fail
      go_ret
      exact ⟨rfl, rfl⟩
    · obtain ⟨n, rfl⟩ := Int.eq_ofNat_of_zero_le (show 0 ≤ p by omega)
      have hn : primeB (n : Int) = (List.range' 2 (n - 2)).all fun d => decide ((n : Int) % (d : Int) ≠ 0) := by
        have : (decide (3 ≤ (n : Int) ∧ (n : Int) ≤ 17)) = true := by simp; omega
        rw [primeB, this, Bool.true_and]; rfl
      have Hn := Lib.hid hn
      have hd : decide ((n : Int) < 3) = false := by simpa using h3
      have hd2 : decide (17 < (n : Int)) = false := by simpa using h17
      have hn3 : 3 ≤ n := by omega
      have hn17 : n ≤ 17 := by omega
      clear hn h3 h17
      go_enter Try.func35, Try.ntmps35
      go_wp2_with fail
      go_loop [3] (fun i => ∃ k : Nat, 2 ≤ k ∧ k ≤ n ∧ i = .int .i64 k ∧ ∀ j, 2 ≤ j → j < k → (n : Int) % (j : Int) ≠ 0) (fun i => n - (intOf i).toNat)
      case atStart => exact ⟨2, by omega, by omega, rfl, fun j h h' => by omega⟩
      case round =>
        obtain ⟨k, hk2, hkn, rfl, hno⟩ := hrel
        have Hno := Lib.hid hno
        clear hno
        by_cases hlt : k < n
        · have hk0 : (0 : Int) < k := by omega
          have htm : ((n : Int)).tmod (k : Int) = (n : Int) % (k : Int) := Int.tmod_eq_emod_of_nonneg (by omega)
          have Htm := Lib.hid htm
          have hnz : ((k : Int) == 0) = false := by simp; omega
          clear htm
          by_cases hz : (n : Int) % (k : Int) = 0
          · have hb : ((n : Int) % (k : Int) == 0) = true := by simp [hz]
            have hb2 : (((n : Int)).tmod (k : Int) == 0) = true := by rw [Htm.out]; simp [hz]
            have Hz := Lib.hid hz
            clear hz
            go_wp2_with fail
            go_ret
            refine ⟨ret_bool ?_, rfl⟩
            rw [Hn.out]
            symm
            rw [List.all_eq_false]
            exact ⟨k, List.mem_range'_1.2 ⟨hk2, by omega⟩, by simp [Hz.out]⟩
          · have hb : ((n : Int) % (k : Int) == 0) = false := by simp [hz]
            have hb2 : (((n : Int)).tmod (k : Int) == 0) = false := by rw [Htm.out]; simp [hz]
            have Hz := Lib.hid hz
            clear hz
            go_wp2_with fail
            go_round
            case rel => exact ⟨k + 1, by omega, by omega, by go_num, fun j h1 h2 => (by
              by_cases h : j < k
              · exact Hno.out j h1 h
              · obtain rfl : j = k := by omega
                exact Hz.out)⟩
            case measure => simp [intOf]; omega
        · have hke : k = n := by omega
          have Hke := Lib.hid hke
          clear hke
          go_wp2_with fail
          go_ret
          refine ⟨ret_bool ?_, rfl⟩
          rw [Hn.out]
          symm
          rw [List.all_eq_true]
          intro d hd
          have := List.mem_range'_1.1 hd
          simp [Hno.out d (by omega) (by have := Hke.out; omega)]

/-- Powers modulo p. -/
def pwr (p g : Nat) : Nat → Nat
  | 0 => 1
  | k + 1 => pwr p g k * g % p
theorem pwr_lt (p g : Nat) (hp : 2 ≤ p) (k : Nat) : pwr p g k < p := by
  cases k with
  | zero => show 1 < p; omega
  | succ k => exact Nat.mod_lt _ (by omega)
def powK (p g k : Nat) : List Int := (List.range 17).map fun i => if i ≤ k then (pwr p g i : Int) else 0
theorem powK_length (p g k : Nat) : (powK p g k).length = 17 := by simp [powK]
theorem powK_at (p g k i : Nat) (hi : i < 17) : nth (powK p g k) i = if i ≤ k then (pwr p g i : Int) else 0 := by simp [powK, nth, hi]
theorem powK_set (p g k : Nat) (hk : k + 1 < 17) : (powK p g k).set (k + 1) (pwr p g (k + 1) : Int) = powK p g (k + 1) := by
  apply List.ext_getElem?
  intro i
  by_cases hi : i < 17
  · by_cases e : k + 1 = i
    · subst e; simp [powK, hi]
    · rw [List.getElem?_set_ne e]
      simp only [powK, List.getElem?_map, List.getElem?_range hi, Option.map_some, Option.some.injEq]
      by_cases h : i ≤ k
      · rw [if_pos h, if_pos (by omega)]
      · rw [if_neg h, if_neg (by omega)]
  · rw [List.getElem?_eq_none (by simp [powK]; omega), List.getElem?_eq_none (by simp [powK]; omega)]
theorem sizeR (l : List Int) (h : l.length = 17) : (Try.prog.info? 65).map (·.size) = some (ic l).size := by
  rw [ic_size, h]; kernel_rfl
def zero17 : List Int := List.replicate 17 0
set_option maxHeartbeats 2000000 in
set_option maxRecDepth 100000 in
theorem powersOf_c (p g : Nat) (hp3 : 3 ≤ p) (hp : p ≤ 17) (hg : g < p) (w : World) :
    Calls Try.prog 37 #[.int .i64 p, .int .i64 g] w fun e w' => e = .returned (.agg (ic (powK p g (p - 1)))) ∧ Keeps w w' := by
  go_enter Try.func37, Try.ntmps37
  go_wp2_with (refine wpList_store_row rfl 65 _ _ rfl (w.heap.size + 1) (ic (powK p g 0)) rfl rfl 65 (ic zero17) (At.new2 w _ _ _) (sizeR _ (powK_length _ _ _)) (by rw [ic_size, ic_size, powK_length]; rfl) (ic_one _) ?_)
  have hb0 : Keeps w (((w.alloc (.cells (ic zero17) 65)).alloc (.cells (ic zero17) 65)).setRow (w.heap.size + 1) (ic (powK p g 0))) := below_row (Keeps.alloc (Keeps.alloc (Below.refl _ _) _) _) (by omega) _
  have h10 : At (((w.alloc (.cells (ic zero17) 65)).alloc (.cells (ic zero17) 65)).setRow (w.heap.size + 1) (ic (powK p g 0))) (w.heap.size + 1) 65 (ic (powK p g 0)) := (At.new2 w _ _ _).row _
  have h00 : At (((w.alloc (.cells (ic zero17) 65)).alloc (.cells (ic zero17) 65)).setRow (w.heap.size + 1) (ic (powK p g 0))) w.heap.size 65 (ic zero17) := ((At.new w _ _).alloc _).rowfar (by omega) _
  change Code.wp _ _ _ _ (((w.alloc (.cells (ic zero17) 65)).alloc (.cells (ic zero17) 65)).setRow (w.heap.size + 1) (ic (powK p g 0)))
  generalize ((w.alloc (.cells (ic zero17) 65)).alloc (.cells (ic zero17) 65)).setRow (w.heap.size + 1) (ic (powK p g 0)) = Y at *
  go_loopw [10] (fun i wr => ∃ k : Nat, k ≤ p - 1 ∧ i = .int .i64 k ∧ At wr w.heap.size 65 (ic zero17) ∧ At wr (w.heap.size + 1) 65 (ic (powK p g k)) ∧ Keeps w wr) (fun i _ => p - (intOf i).toNat)
  case atStart => exact ⟨0, Nat.zero_le _, rfl, h00, h10, hb0⟩
  case round =>
    obtain ⟨k, hk, rfl, h0, h1, hb⟩ := hrel
    clear h00 h10 hb0
    by_cases hlt : k < p - 1
    · have hck := h1.int k (by rw [powK_length]; omega)
      rw [powK_at _ _ _ _ (by omega), if_pos (Nat.le_refl _)] at hck
      have hpl := pwr_lt p g (by omega) k
      have hset := Lib.hid (powK_set p g k (by omega))
      have hstep := Lib.hid (show ((pwr p g (k + 1) : Nat) : Int) = (pwr p g k : Int) * (g : Int) % (p : Int) by rw [pwr]; simp)
      have hmul : pwr p g k * g ≤ 17 * 17 := Nat.mul_le_mul (by omega) (by omega)
      generalize hx : pwr p g k = x at *
      have Hx := Lib.hid hx
      have hmi : (x : Int) * (g : Int) ≤ 289 := by
        have : ((x * g : Nat) : Int) ≤ 289 := by exact_mod_cast hmul
        rwa [Int.natCast_mul] at this
      have hm0 : 0 ≤ (x : Int) * (g : Int) := by
        have : (0 : Int) ≤ ((x * g : Nat) : Int) := by omega
        rwa [Int.natCast_mul] at this
      have fk := h1.frozen (k + 1)
      have ck := h1.int (k + 1) (by rw [powK_length]; omega)
      clear hx hmul
      go_wp2_with fail
      go_roundw
      case rel =>
        refine ⟨k + 1, by omega, by go_num, h0.far (by simp) _, ?_, hb.setCell (by simp) _⟩
        rw [← hset.out, hstep.out, ← ic_set]
        exact h1.set (k + 1) _
      case measure => simp [intOf]; omega
    · have hke : k = p - 1 := by omega
      have Hke := Lib.hid hke
      clear hke
      go_wp2_with (first
        | refine wpList_load_row rfl 65 _ rfl (w.heap.size + 1) rfl 65 (ic (powK p g k)) (0, 0) _ h1 Try.underlying65 rfl (sizeR _ (powK_length _ _ _)) ?_
        | refine wpList_store_row rfl 65 _ _ rfl w.heap.size (ic (powK p g k)) rfl rfl 65 (ic zero17) h0 (sizeR _ (powK_length _ _ _)) (by rw [ic_size, ic_size, powK_length]; rfl) (ic_one _) ?_)
      refine bodyPost_ret (results_cell_row Try.results37 _ _ w.heap.size _ _ _ _ rfl (h0.row _) Try.underlying65 rfl (sizeR _ (powK_length _ _ _))) rfl ⟨by rw [Hke.out], below_row hb (Nat.le_refl _) _⟩

/-- The logarithms that the first k powers give. -/
def logK (p g : Nat) : Nat → List Int
  | 0 => zero17
  | k + 1 => (logK p g k).set (pwr p g (k + 1)) ((k : Int) + 1)
theorem logK_length (p g k : Nat) : (logK p g k).length = 17 := by
  induction k with
  | zero => rfl
  | succ k ih => simp [logK, ih]
set_option maxHeartbeats 2000000 in
set_option maxRecDepth 100000 in
theorem logsOf_c (p g : Nat) (hp3 : 3 ≤ p) (hp : p ≤ 17) (hg : g < p) (w : World) :
    Calls Try.prog 38 #[.int .i64 p, .int .i64 g] w fun e w' => e = .returned (.agg (ic (logK p g (p - 1)))) ∧ Keeps w w' := by
  have hpw := fun x => powersOf_c p g hp3 hp hg x
  go_enter Try.func38, Try.ntmps38
  go_wp2_with (first
    | (go_at_call 37
       refine (hpw _).mono ?_
       rintro e w1 ⟨rfl, hb1⟩
       have h01 : At w1 w.heap.size 65 (ic zero17) := ((At.new w _ _).alloc _).later hb1
       have h11 : At w1 (w.heap.size + 1) 65 (ic zero17) := (At.new2 w _ _ _).later hb1
       have hk1 : Keeps w w1 := Keeps.next (Keeps.alloc (Keeps.alloc (Below.refl _ _) _) _) hb1
       have hlt1 := h11.lt)
    | (refine wpList_store_row rfl 65 _ _ rfl w1.heap.size (ic (powK p g (p - 1))) rfl rfl 65 (ic zero17) (At.new w1 _ _) (sizeR _ (powK_length _ _ _)) (by rw [ic_size, ic_size, powK_length]; rfl) (ic_one _) ?_
       have h02 : At ((w1.alloc (.cells (ic zero17) 65)).setRow w1.heap.size (ic (powK p g (p - 1)))) w.heap.size 65 (ic zero17) := (h01.alloc _).rowfar (by omega) _
       have h12 : At ((w1.alloc (.cells (ic zero17) 65)).setRow w1.heap.size (ic (powK p g (p - 1)))) (w.heap.size + 1) 65 (ic (logK p g 0)) := (h11.alloc _).rowfar (by omega) _
       have h22 : At ((w1.alloc (.cells (ic zero17) 65)).setRow w1.heap.size (ic (powK p g (p - 1)))) w1.heap.size 65 (ic (powK p g (p - 1))) := (At.new w1 _ _).row _
       have hk2 : Keeps w ((w1.alloc (.cells (ic zero17) 65)).setRow w1.heap.size (ic (powK p g (p - 1)))) := below_row (Keeps.alloc hk1 _) (by omega) _
       change wpList _ _ _ _ _ ((w1.alloc (.cells (ic zero17) 65)).setRow w1.heap.size (ic (powK p g (p - 1))))
       generalize (w1.alloc (.cells (ic zero17) 65)).setRow w1.heap.size (ic (powK p g (p - 1))) = Y at *
       generalize w1.heap.size = gp at *
       clear h01 h11 hk1 hb1))
  go_loopw [7] (fun i wr => ∃ k : Nat, k ≤ p - 1 ∧ i = .int .i64 (k + 1 : Nat) ∧ At wr w.heap.size 65 (ic zero17) ∧ At wr (w.heap.size + 1) 65 (ic (logK p g k)) ∧ At wr gp 65 (ic (powK p g (p - 1))) ∧ Keeps w wr) (fun i _ => p - (intOf i).toNat)
  case atStart => exact ⟨0, Nat.zero_le _, rfl, h02, h12, h22, hk2⟩
  case round =>
    obtain ⟨k, hk, rfl, h0, h1, h2, hb⟩ := hrel
    clear h02 h12 h22 hk2
    by_cases hlt : k + 1 < p
    · have hck := h2.int (k + 1) (by rw [powK_length]; omega)
      rw [powK_at _ _ _ _ (by omega), if_pos (by omega)] at hck
      have hpl := pwr_lt p g (by omega) (k + 1)
      have hstep : Hid (logK p g (k + 1) = (logK p g k).set (pwr p g (k + 1)) ((k : Int) + 1)) := Lib.hid rfl
      generalize pwr p g (k + 1) = x at *
      have fk := h1.frozen x
      have ck := h1.int x (by rw [logK_length]; omega)
      go_wp2_with fail
      exact ⟨⟨k + 1, by omega, by go_num, h0.far (by simp) _, by rw [hstep.out, ← ic_set]; exact h1.set x _, h2.far (by simp; omega) _, hb.setCell (by simp) _⟩, by simp [intOf]; omega⟩
    · have hke : k = p - 1 := by omega
      have Hke := Lib.hid hke
      clear hke
      go_wp2_with (first
        | refine wpList_load_row rfl 65 _ rfl (w.heap.size + 1) rfl 65 (ic (logK p g k)) (0, 0) _ h1 Try.underlying65 rfl (sizeR _ (logK_length _ _ _)) ?_
        | refine wpList_store_row rfl 65 _ _ rfl w.heap.size (ic (logK p g k)) rfl rfl 65 (ic zero17) h0 (sizeR _ (logK_length _ _ _)) (by rw [ic_size, ic_size, logK_length]; rfl) (ic_one _) ?_)
      refine bodyPost_ret (results_cell_row Try.results38 _ _ w.heap.size _ _ _ _ rfl (h0.row _) Try.underlying65 rfl (sizeR _ (logK_length _ _ _))) rfl ⟨by rw [Hke.out], below_row hb (Nat.le_refl _) _⟩

/-- The logarithms of 1 to p - 1. -/
def logsT (p g : Nat) : List Int := ((logK p g (p - 1)).drop 1).take (p - 1)
def rootB (p g : Int) : Bool := decide (1 ≤ g ∧ g < p) && decide ((0 : Int) ∉ logsT p.toNat g.toNat)
theorem nth_drop (l : List Int) (m k : Nat) : nth (l.drop m) k = nth l (m + k) := by simp [nth]
set_option maxHeartbeats 2000000 in
set_option maxRecDepth 100000 in
theorem isRoot_yes (p g : Nat) (hp3 : 3 ≤ p) (hp : p ≤ 17) (h1 : 1 ≤ g) (hg : g < p) (w : World) :
    Calls Try.prog 36 #[.int .i64 p, .int .i64 g] w fun e w' => e = .returned (.bool (!decide ((0 : Int) ∈ logsT p g))) ∧ Keeps w w' := by
  have hlo := fun x => logsOf_c p g hp3 hp hg x
  have hll : (logsT p g).length = p - 1 := by simp [logsT, logK_length]; omega
  have hrd : ∀ (x : World) (b : Nat), At x b 65 (ic (logK p g (p - 1))) → RdI x (.slice (some ⟨b, 1, none⟩) (p - 1) 16) (logsT p g) := by
    intro x b h
    refine ⟨some ⟨b, 1, none⟩, 16, by rw [hll], by rw [hll]; unfold maxLen; omega, fun k hk => ?_⟩
    rw [hll] at hk
    refine ⟨b, 1, _, rfl, h.int (1 + k) (by rw [logK_length]; omega), ?_⟩
    show _ = Value.int .i64 _
    rw [logsT, nth_take _ _ _ hk, nth_drop]
  have hcon := fun x b h => contains_c (.slice (some ⟨b, 1, none⟩) (p - 1) 16) (logsT p g) 0 x (hrd x b h)
  have q2 : (1 : Int) ≤ p := by omega
  have q3 : (p : Int) ≤ 17 := by omega
  have q4 : 1 ≤ p := by omega
  clear hll hrd
  generalize decide ((0 : Int) ∈ logsT p g) = B at *
  go_enter Try.func36, Try.ntmps36
  go_wp2_with (first
    | (go_at_call 38; refine (hlo _).mono ?_; rintro e w1 ⟨rfl, hb1⟩)
    | (refine wpList_store_row rfl 65 _ _ rfl w1.heap.size (ic (logK p g (p - 1))) rfl rfl 65 (ic zero17) (At.new w1 _ _) (sizeR _ (logK_length _ _ _)) (by rw [ic_size, ic_size, logK_length]; rfl) (ic_one _) ?_
       have h2 : At ((w1.alloc (.cells (ic zero17) 65)).setRow w1.heap.size (ic (logK p g (p - 1)))) w1.heap.size 65 (ic (logK p g (p - 1))) := (At.new w1 _ _).row _
       have hk2 : Keeps w ((w1.alloc (.cells (ic zero17) 65)).setRow w1.heap.size (ic (logK p g (p - 1)))) := below_row (Keeps.alloc hb1 _) hb1.size _
       change wpList _ _ _ _ _ ((w1.alloc (.cells (ic zero17) 65)).setRow w1.heap.size (ic (logK p g (p - 1))))
       generalize (w1.alloc (.cells (ic zero17) 65)).setRow w1.heap.size (ic (logK p g (p - 1))) = Y at *
       generalize w1.heap.size = gp at *)
    | (go_at_call 44; refine (hcon _ _ h2).mono ?_; rintro e w2 ⟨rfl, rfl⟩))
  go_ret
  exact ⟨rfl, hk2⟩
set_option maxHeartbeats 1000000 in
theorem isRoot_no (p g : Int) (h : ¬ (1 ≤ g ∧ g < p)) (w : World) :
    Calls Try.prog 36 #[.int .i64 p, .int .i64 g] w fun e w' => e = .returned (.bool false) ∧ Keeps w w' := by
  by_cases h1 : g < 1
  · clear h
    go_enter Try.func36, Try.ntmps36
    go_wp2_with fail
    go_ret
    exact ⟨rfl, Below.refl _ _⟩
  · have h2 : p ≤ g := by omega
    have hd : decide (g < 1) = false := by simpa using h1
    clear h
    go_enter Try.func36, Try.ntmps36
    go_wp2_with fail
    go_ret
    exact ⟨rfl, Below.refl _ _⟩
theorem isRoot_c (p g : Int) (hp3 : 3 ≤ p) (hp : p ≤ 17) (w : World) :
    Calls Try.prog 36 #[.int .i64 p, .int .i64 g] w fun e w' => e = .returned (.bool (rootB p g)) ∧ Keeps w w' := by
  by_cases h : 1 ≤ g ∧ g < p
  · have := isRoot_yes p.toNat g.toNat (by omega) (by omega) (by omega) (by omega) w
    rw [Int.toNat_of_nonneg (by omega), Int.toNat_of_nonneg (by omega)] at this
    refine this.mono ?_
    rintro e w' ⟨rfl, hb⟩
    exact ⟨ret_bool (by rw [rootB, decide_eq_true h]; simp), hb⟩
  · refine (isRoot_no p g h w).mono ?_
    rintro e w' ⟨rfl, hb⟩
    exact ⟨ret_bool (by rw [rootB, decide_eq_false h]; rfl), hb⟩
end Go.Proofs.Ytdploccpobpjjaa
