/- Value, Gains and Climb of the texts of sides; the gains together. -/
import Derived.Test.YtngonghgkeobhaaEh
import Derived.Test.YtngonghgkeobhaaDi
import Derived.Test.YtngonghgkeobhaaEb
namespace Go.Proofs.Ytngonghgkeobhaa
open Go.RowKit Go.Shelf
set_option linter.unusedVariables false
set_option linter.unusedSimpArgs false

theorem sideB_TX (S d : Nat) : sideB d (TX S d) = true := by
  unfold sideB
  simp only [Bool.and_eq_true, decide_eq_true_eq]
  exact ⟨by rw [TX_size], TX_ok S d⟩
theorem Value_T (d : Nat) (v : Value) (l : List Ed) (S : Nat) (hg : graphB d l = true) (w : World) (hv : RdE w v l) :
    Calls Try.prog 12 #[.int .i64 d, v, .string (TX S d)] w fun e w' => e = .returned (.tuple #[.int .i64 (valL S l), .int .i64 0]) ∧ Keeps w w' := by
  have hd := (graphB_n hg).2
  have := Value_yes d v l (TX S d) hg (sideB_TX S d) w hv
  rw [TX_size, valL_below _ S d l (graphB_below hg d rfl) (rdTX_eq S d (by omega))] at this
  exact this
theorem gnL_below (S S' d : Nat) (hd : d ≤ 12) (l : List Ed) (hl : below d l) (hT : edgesT l) (h : ∀ u, u < d → hs S u = hs S' u) : gnL S l = gnL S' l := by
  apply nth_ext'
  · rw [gnL_len, gnL_len]
  · intro k hk
    rw [gnL_len] at hk
    rw [nth_dgn S k hk l hT, nth_dgn S' k hk l hT, dgn_below S S' d k hd hk l hl h]
theorem Gains_T (d : Nat) (v : Value) (l : List Ed) (S : Nat) (hg : graphB d l = true) (w : World) (hv : RdE w v l) :
    Calls Try.prog 15 #[.int .i64 d, v, .string (TX S d)] w fun e w' => ∃ b c, e = .returned (.tuple #[.slice (some ⟨b, 0, none⟩) d c, .int .i64 0]) ∧ RdI w' (.slice (some ⟨b, 0, none⟩) d c) ((List.range d).map (dgn l S)) ∧ Keeps w w' := by
  have hd := (graphB_n hg).2
  have := Gains_yes d v l (TX S d) hg (sideB_TX S d) w hv
  rw [TX_size, gnL_below _ S d (by omega) l (graphB_below hg d rfl) (edgesT_of hg) (rdTX_eq S d (by omega)), gain_eq d l hg S d (by omega)] at this
  exact this
theorem clm_below (d : Nat) (hd : d ≤ 12) (l : List Ed) (hl : below d l) (hT : edgesT l) : ∀ (f S S' k : Nat), (∀ u, u < d → hs S u = hs S' u) → (clm l f S k).2 = (clm l f S' k).2 ∧ ∀ u, u < d → hs (clm l f S k).1 u = hs (clm l f S' k).1 u
  | 0, S, S', k, h => ⟨rfl, h⟩
  | f + 1, S, S', k, h => by
    have e := gnL_below S S' d hd l hl hT h
    unfold clm
    rw [e]
    by_cases hp : 0 ≤ fpos (gnL S' l)
    · rw [if_pos hp, if_pos hp]
      refine clm_below d hd l hl hT f _ _ _ (hs_flp_congr S S' d _ hd ?_ h)
      rcases fpos_lt S' l with h1 | ⟨p, h1, h2, _⟩
      · omega
      · rw [h2, Int.toNat_natCast]; exact h1
    · rw [if_neg hp, if_neg hp]
      exact ⟨rfl, h⟩
theorem Climb_T (d : Nat) (v : Value) (l : List Ed) (S : Nat) (hg : graphB d l = true) (w : World) (hv : RdE w v l) :
    Calls Try.prog 16 #[.int .i64 d, v, .string (TX S d)] w fun e w' => e = .returned (.tuple #[.string (TX (clmb l S).1 d), .int .i64 (clmb l S).2, .int .i64 0]) ∧ Keeps w w' := by
  have hd := (graphB_n hg).2
  have := Climb_yes d v l (TX S d) hg (sideB_TX S d) w hv
  obtain ⟨h1, h2⟩ := clm_below d (by omega) l (graphB_below hg d rfl) (edgesT_of hg) 10001 _ S 0 (rdTX_eq S d (by omega))
  rw [TX_size] at this
  rw [show (clmb l (rdS (TX S d).data.toList d)).2 = (clmb l S).2 from h1] at this
  refine this.mono ?_
  rintro e w' ⟨rfl, hb⟩
  refine ⟨?_, hb⟩
  have h3 := TX_congr _ _ d h2
  show Ending.returned (.tuple #[.string (TX (clm l 10001 (rdS (TX S d).data.toList d) 0).1 d), _, _]) = _
  rw [h3]; rfl
theorem rgraph_T (d : Nat) (v : Value) (l : List Ed) (hg : graphB d l = true) (w : World) (hv : RdE w v l) :
    Calls Try.prog 20 #[.int .i64 d, v] w fun e w' => e = .returned (.bool true) ∧ ∃ m, w' = w.drewN m := by
  have h40 : l.length ≤ 40 := by unfold graphB at hg; simp only [Bool.and_eq_true, decide_eq_true_eq] at hg; exact hg.2.1
  have := rgraph_c d v l (by omega) w hv
  rw [hg] at this
  exact this
theorem rside_T (S d : Nat) (hd : d ≤ 12) (w : World) :
    Calls Try.prog 18 #[.int .i64 d, .string (TX S d)] w fun e w' => e = .returned (.bool true) ∧ ∃ m, w' = w.drewN m := by
  have := rside_c d (TX S d) (by rw [TX_size]; omega) w
  rw [sideB_TX] at this
  exact this
/-- The sum of the first k of a list. -/
def smT (r : List Int) (k : Nat) : Int := (r.take k).sum
theorem smT_succ (r : List Int) (k : Nat) (h : k < r.length) : smT r (k + 1) = smT r k + nth r k := by
  unfold smT
  rw [take_nth r k h, List.sum_append]; simp
theorem smT_in (r : List Int) (B : Nat) (hB : ∀ x ∈ r, -(B : Int) ≤ x ∧ x ≤ B) (k : Nat) (hk : k ≤ r.length) : -((k * B : Nat) : Int) ≤ smT r k ∧ smT r k ≤ ((k * B : Nat) : Int) := by
  induction k with
  | zero => exact ⟨by simp [smT], by simp [smT]⟩
  | succ k ih =>
    have ih := ih (by omega)
    have h := hB _ (nth_mem r k (by omega))
    rw [smT_succ r k (by omega), Nat.succ_mul]
    omega
/-- All weights together. -/
def wsL (l : List Ed) : List Int := l.map fun x => x.2.2
theorem dlv_sum (S d : Nat) (x : Ed) (h1 : x.1.toNat < d) (h2 : x.2.1.toNat < d) (h3 : x.1.toNat ≠ x.2.1.toNat) : ((List.range d).map fun k => dlv S k x).sum = 2 * dlt S x := by
  have key : ∀ m, ((List.range m).map fun k => dlv S k x).sum = (if x.1.toNat < m then dlt S x else 0) + (if x.2.1.toNat < m then dlt S x else 0) := by
    intro m
    induction m with
    | zero => simp
    | succ m ih =>
      rw [List.range_succ, List.map_append, List.sum_append, ih]
      simp only [List.map_cons, List.map_nil, List.sum_cons, List.sum_nil]
      unfold dlv
      generalize dlt S x = D at *
      generalize x.1.toNat = p at *
      generalize x.2.1.toNat = q at *
      repeat' split
      all_goals omega
  rw [key, if_pos h1, if_pos h2]; omega
theorem dlt_wgt (S : Nat) (x : Ed) : dlt S x = x.2.2 - 2 * wgt S x := by
  unfold dlt wgt
  split <;> omega
theorem sum_add (f g : Nat → Int) : ∀ (r : List Nat), (r.map fun k => f k + g k).sum = (r.map f).sum + (r.map g).sum
  | [] => rfl
  | x :: r => by simp only [List.map_cons, List.sum_cons]; rw [sum_add f g r]; omega
theorem gains_sum (S d : Nat) (hd : d ≤ 12) (l : List Ed) (hl : below d l) (hT : edgesT l) : ((List.range d).map (dgn l S)).sum = 2 * (wsL l).sum - 4 * valL S l := by
  have key : ∀ k, k ≤ l.length → ((List.range d).map (dgn (l.take k) S)).sum = 2 * (wsL (l.take k)).sum - 4 * valL S (l.take k) := by
    intro k
    induction k with
    | zero =>
      intro _
      have : ((List.range d).map (dgn [] S)).sum = 0 := by
        have : (List.range d).map (dgn [] S) = (List.range d).map fun _ => (0 : Int) := List.map_congr_left fun i _ => by unfold dgn; rfl
        rw [this]
        clear hd hl
        induction d with
        | zero => rfl
        | succ d ih => rw [List.range_succ, List.map_append, List.sum_append, ih (by simp [dgn, valL])]; rfl
      rw [List.take_zero, this]; rfl
    | succ k ih =>
      intro hk
      have hx : l[k]? = some l[k] := List.getElem?_eq_getElem (by omega)
      have hm := List.mem_of_getElem? hx
      have h1 := hl _ hm
      have h2 := hT _ hm
      rw [take_at l k _ hx]
      have e : (List.range d).map (dgn (l.take k ++ [l[k]]) S) = (List.range d).map fun i => dgn (l.take k) S i + dlv S i l[k] := List.map_congr_left fun i hi => by
        have hi := List.mem_range.1 hi
        unfold dgn
        rw [valL_snoc, valL_snoc, wgt_flp S i (by omega) _ h2]; omega
      rw [e, sum_add, ih (by omega), dlv_sum S d _ (by omega) (by omega) h2.2.2, valL_snoc, dlt_wgt]
      unfold wsL
      rw [List.map_append, List.sum_append]
      simp only [List.map_cons, List.map_nil, List.sum_cons, List.sum_nil]
      omega
  have := key l.length (Nat.le_refl _)
  rwa [List.take_length] at this
theorem flp_flp (S i : Nat) (hi : i < 12) (u : Nat) (hu : u < 12) : hs (flp (flp S i) i) u = hs S u := by
  rw [hs_flp _ i u hi hu, hs_flp S i u hi hu]
  split <;> simp_all
theorem dgn_back (S i : Nat) (hi : i < 12) (l : List Ed) (hE : edgesOk l) : dgn l (flp S i) i = -dgn l S i := by
  unfold dgn
  rw [valL_congr _ S l hE (flp_flp S i hi)]; omega
theorem rdI_cell {w : World} {b o n c : Nat} {l : List Int} (h : RdI w (.slice (some ⟨b, o, none⟩) n c) l) (k : Nat) (hk : k < l.length) : w.cell? ⟨b, o + k, none⟩ = some (.int .i64 (nth l k)) := by
  obtain ⟨A, c', he, _, hc⟩ := h
  injection he with h1 h2 h3
  subst h1
  obtain ⟨_, _, u, he, hcell, rfl⟩ := hc k hk
  cases he
  exact hcell
theorem dgn_in (l : List Ed) (hE : edgesOk l) (S i : Nat) : -10000 ≤ dgn l S i ∧ dgn l S i ≤ 10000 := by
  have h1 := val_in S l hE
  have h2 := val_in (flp S i) l hE
  unfold dgn; omega
end Go.Proofs.Ytngonghgkeobhaa
