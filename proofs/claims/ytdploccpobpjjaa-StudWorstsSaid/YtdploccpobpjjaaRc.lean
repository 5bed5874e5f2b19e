/- The reference's Clear. -/
import Derived.Test.YtdploccpobpjjaaSk
namespace Go.Proofs.Ytdploccpobpjjaa
open Go.RowKit
set_option linter.unusedVariables false

def lexP (p q : Nat × Nat) : Prop := p.1 < q.1 ∨ (p.1 = q.1 ∧ p.2 < q.2)
theorem prs_has (n i j : Nat) (h1 : i < j) (h2 : j < n) : (i, j) ∈ prs n := by
  simp only [prs, prsF, rowP, List.mem_flatMap, List.mem_map, List.mem_range'_1]
  exact ⟨i, by omega, j, by omega, rfl⟩
theorem prsF_first (n i : Nat) (x : Nat × Nat) (h : x ∈ prsF n i) : i ≤ x.1 := by
  simp only [prsF, rowP, List.mem_flatMap, List.mem_map, List.mem_range'_1] at h
  obtain ⟨i', hi, j, hj, rfl⟩ := h
  exact hi.1
theorem rowP_first (n i j : Nat) (x : Nat × Nat) (h : x ∈ rowP n i j) : x.1 = i ∧ j ≤ x.2 := by
  simp only [rowP, List.mem_map, List.mem_range'_1] at h
  obtain ⟨y, hy, rfl⟩ := h
  exact ⟨rfl, hy.1⟩
theorem rowP_sorted (n i : Nat) : ∀ f j, n - j = f → (rowP n i j).Pairwise lexP := by
  intro f
  induction f with
  | zero => intro j h; rw [rowP_nil n i j (by omega)]; exact List.Pairwise.nil
  | succ f ih =>
    intro j h
    rw [rowP_cons n i j (by omega)]
    refine List.Pairwise.cons (fun x hx => ?_) (ih (j + 1) (by omega))
    have := rowP_first n i (j + 1) x hx
    exact .inr ⟨this.1.symm, by have := this.2; simp only; omega⟩
theorem prsF_sorted (n : Nat) : ∀ f i, n - i = f → (prsF n i).Pairwise lexP := by
  intro f
  induction f with
  | zero => intro i h; rw [prsF_nil n i (by omega)]; exact List.Pairwise.nil
  | succ f ih =>
    intro i h
    rw [prsF_cons n i (by omega), List.pairwise_append]
    refine ⟨rowP_sorted n i _ _ rfl, ih (i + 1) (by omega), fun x hx y hy => .inl ?_⟩
    have h1 := (rowP_first _ _ _ _ hx).1
    have h2 := prsF_first _ _ _ hy
    omega
theorem prs_sorted (n : Nat) : (prs n).Pairwise lexP := prsF_sorted n _ 0 rfl
theorem find_sorted {α : Type} {R : α → α → Prop} {f : α → Bool} {q : α} : ∀ {xs : List α}, xs.Pairwise R → q ∈ xs → f q = true → (∀ r ∈ xs, R r q → f r = false) → xs.find? f = some q
  | [], _, h, _, _ => by cases h
  | x :: xs, hp, hq, hf, hn => by
    rcases List.mem_cons.1 hq with rfl | hq
    · simp [List.find?, hf]
    · have := List.pairwise_cons.1 hp
      rw [List.find?_cons, hn x (by simp) (this.1 q hq)]
      exact find_sorted this.2 hq hf fun r hr => hn r (by simp [hr])
theorem findSome_sorted {α β : Type} {R : α → α → Prop} {f : α → Option β} {q : α} {y : β} : ∀ {xs : List α}, xs.Pairwise R → q ∈ xs → f q = some y → (∀ r ∈ xs, R r q → f r = none) → xs.findSome? f = some y
  | [], _, h, _, _ => by cases h
  | x :: xs, hp, hq, hf, hn => by
    rcases List.mem_cons.1 hq with rfl | hq
    · simp [List.findSome?, hf]
    · have := List.pairwise_cons.1 hp
      rw [List.findSome?_cons, hn x (by simp) (this.1 q hq)]
      exact findSome_sorted this.2 hq hf fun r hr => hn r (by simp [hr])

/-- The pairs (i, j) and (k, k+j-i) have the same step. -/
def hitP (l : List Int) (i j k : Nat) : Prop := nth l j - nth l i = nth l (k + j - i) - nth l k
def NoK (l : List Int) (i j k0 : Nat) : Prop := ∀ k, i < k → k < k0 → k + j - i < l.length → ¬ hitP l i j k
def NoJ (l : List Int) (i j0 : Nat) : Prop := ∀ j, i < j → j < j0 → ∀ k, i < k → k + j - i < l.length → ¬ hitP l i j k
def NoI (l : List Int) (i0 : Nat) : Prop := ∀ i, i < i0 → ∀ j, i < j → j < l.length → ∀ k, i < k → k + j - i < l.length → ¬ hitP l i j k
theorem NoK.step {l : List Int} {i j k : Nat} (h : NoK l i j k) (hn : ¬ hitP l i j k) : NoK l i j (k + 1) := fun k' h1 h2 h3 => if e : k' = k then e ▸ hn else h k' h1 (by omega) h3
theorem NoK.all {l : List Int} {i j k : Nat} (h : NoK l i j k) (h0 : i < j) (hk : l.length ≤ k + j - i) (hJ : NoJ l i j) : NoJ l i (j + 1) :=
  fun j' h1 h2 k' h3 h4 => if e : j' = j then by subst e; exact h k' h3 (by omega) h4 else hJ j' h1 (by omega) k' h3 h4
theorem NoJ.all {l : List Int} {i j : Nat} (h : NoJ l i j) (hj : l.length ≤ j) (hI : NoI l i) : NoI l (i + 1) :=
  fun i' h1 j' h2 h3 k' h4 h5 => if e : i' = i then by subst e; exact h j' h2 (by omega) k' h4 h5 else hI i' (by omega) j' h2 h3 k' h4 h5
theorem cl2_hit {l : List Int} {i j : Nat} {q : Nat × Nat} (h : cl2 l (i, j) q = true) (hij : i < j) : i < q.1 ∧ q.2 = q.1 + j - i ∧ hitP l i j q.1 := by
  simp only [cl2, Bool.and_eq_true, decide_eq_true_eq] at h
  obtain ⟨⟨h1, h2⟩, h3⟩ := h
  unfold stp1 at h1
  unfold stp2 at h2
  have hq : q.2 = q.1 + j - i := by omega
  refine ⟨h3, hq, ?_⟩
  unfold hitP
  rw [← hq]
  exact h2
theorem none_of {l : List Int} {i j : Nat} (hij : i < j) (h : ∀ k, i < k → k + j - i < l.length → ¬ hitP l i j k) : (prs l.length).find? (cl2 l (i, j)) = none := by
  rw [List.find?_eq_none]
  intro q hq hc
  have hm := prs_mem _ _ hq
  obtain ⟨h1, h2, h3⟩ := cl2_hit hc hij
  exact h q.1 h1 (by omega) h3
theorem clearF_nohit {l : List Int} (h : NoI l l.length) : clearF l = none := by
  unfold clearF
  rw [List.findSome?_eq_none_iff]
  rintro ⟨i, j⟩ hp
  have hm := prs_mem _ _ hp
  rw [none_of hm.1 (h i (by have := hm.1; have := hm.2; simp only at *; omega) j hm.1 hm.2)]
  rfl
theorem clearF_hit {l : List Int} {i j k : Nat} (hij : i < j) (hik : i < k) (hj : j < l.length) (hk : k + j - i < l.length) (hh : hitP l i j k) (hI : NoI l i) (hJ : NoJ l i j) (hK : NoK l i j k) : clearF l = some ((i, j), (k, k + j - i)) := by
  unfold clearF
  refine findSome_sorted (prs_sorted _) (prs_has _ i j hij hj) ?_ ?_
  · rw [find_sorted (q := (k, k + j - i)) (prs_sorted _) (prs_has _ _ _ (by omega) hk) ?_ ?_]
    · rfl
    · simp only [cl2, Bool.and_eq_true, decide_eq_true_eq]
      unfold stp1 stp2
      exact ⟨⟨by omega, hh⟩, hik⟩
    · rintro ⟨a, b⟩ hr hlt
      rw [Bool.eq_false_iff]
      intro hc
      have hm := prs_mem _ _ hr
      obtain ⟨h1, h2, h3⟩ := cl2_hit hc hij
      simp only at h1 h2 h3 hm
      unfold lexP at hlt
      simp only at hlt
      exact hK a h1 (by omega) (by omega) h3
  · rintro ⟨a, b⟩ hr hlt
    have hm := prs_mem _ _ hr
    simp only at hm
    have : (prs l.length).find? (cl2 l (a, b)) = none := by
      unfold lexP at hlt
      simp only at hlt
      rcases hlt with h | ⟨rfl, h⟩
      · exact none_of hm.1 (hI a h b hm.1 hm.2)
      · exact none_of hm.1 (hJ b hm.1 h)
    rw [this]
    rfl
theorem clearA_some {l : List Int} {i j k m : Nat} (ho : ordB l = true) (h : clearF l = some ((i, j), (k, m))) : clearA l = ia i j k m ∧ clearK l = false := by
  simp [clearA, clearK, clearT, ho, h]
theorem clearA_none {l : List Int} (ho : ordB l = true) (h : clearF l = none) : clearA l = ia 0 0 0 0 ∧ clearK l = true := by
  simp [clearA, clearK, clearT, ho, h]
set_option maxHeartbeats 4000000 in
set_option maxRecDepth 100000 in
theorem rclear_c (A : Option Addr) (c : Nat) (l : List Int) (ho : ordB l = true) (w : World) (hv : RdI w (.slice A l.length c) l) :
    Calls Try.prog 41 #[.slice A l.length c] w fun e w' => e = .returned (.tuple #[.agg (clearA l), .bool (clearK l)]) ∧ Keeps w w' := by
  obtain ⟨_, _, hA, hmx, hcs⟩ := id hv
  cases hA
  obtain ⟨ho1, ho2, ho3, -⟩ := ordB_parts l ho
  have hin : ∀ i, i < l.length → 0 ≤ nth l i ∧ nth l i < l.length := fun i hi => (hasB_iff _ _).1 (List.all_eq_true.1 ho3 _ (nth_mem l i hi))
  obtain ⟨b, off, x0, rfl, -, -⟩ := hcs 0 (by omega)
  have hcell : ∀ k, k < l.length → w.cell? ⟨b, off + k, none⟩ = some (.int .i64 (nth l k)) := by
    intro k hk
    obtain ⟨b', o', x, h1, h2, rfl⟩ := hcs k hk
    cases h1
    exact h2
  have Hin := Lib.hid hin
  have Hcell := Lib.hid hcell
  have hsome : ∀ i j k m, clearF l = some ((i, j), (k, m)) → clearA l = ia i j k m ∧ clearK l = false := fun i j k m => clearA_some ho
  have hnone : clearF l = none → clearA l = ia 0 0 0 0 ∧ clearK l = true := clearA_none ho
  have Hsome := Lib.hid hsome
  have Hnone := Lib.hid hnone
  clear ho ho3 hmx hin hcs hcell hv hsome hnone
  go_enter Try.func41, Try.ntmps41
  go_wp2_with fail
  go_loopw [4] (fun i wr => ∃ k : Nat, k ≤ l.length ∧ i = .int .i64 k ∧ NoI l k ∧ Keeps w wr ∧ At wr w.heap.size 27 (ia 0 0 0 0)) (fun i _ => l.length - (intOf i).toNat)
  case atStart => exact ⟨0, Nat.zero_le _, rfl, fun i h => by omega, Keeps.alloc (Below.refl _ _) _, At.new w _ _⟩
  case round =>
    obtain ⟨i, hi, rfl, hI, hb, hat⟩ := hrel
    by_cases hlt : i < l.length
    · go_wp2_with fail
      generalize wr = w3 at *
      have HI := Lib.hid hI
      clear hI
      go_loopw [5] (fun u wr => ∃ j : Nat, i < j ∧ j ≤ l.length ∧ u = .int .i64 j ∧ NoJ l i j ∧ Keeps w wr ∧ At wr w.heap.size 27 (ia 0 0 0 0)) (fun u _ => l.length - (intOf u).toNat)
      case atStart => exact ⟨i + 1, by omega, by omega, by go_num, fun j h1 h2 => by omega, hb, hat⟩
      case round =>
        obtain ⟨j, hij, hj, rfl, hJ, hb2, hat2⟩ := hrel
        by_cases hjt : j < l.length
        · go_wp2_with fail
          generalize wr = w4 at *
          have HJ := Lib.hid hJ
          clear hJ hb hat
          go_loopw [6] (fun u wr => ∃ k : Nat, i < k ∧ k ≤ l.length ∧ u = .int .i64 k ∧ NoK l i j k ∧ Keeps w wr ∧ At wr w.heap.size 27 (ia 0 0 0 0)) (fun u _ => l.length - (intOf u).toNat)
          case atStart => exact ⟨i + 1, by omega, by omega, by go_num, fun k h1 h2 => by omega, hb2, hat2⟩
          case round =>
            obtain ⟨k, hik, hk, rfl, hK, hb3, hat3⟩ := hrel
            obtain ⟨m, hm⟩ : ∃ m : Nat, k + j - i = m := ⟨_, rfl⟩
            have hmI : (k : Int) + j - i = m := by omega
            by_cases hmt : m < l.length
            · have hkt : k < l.length := by omega
              have c1 := cell_keep (Hcell.out j hjt) hb3
              have c2 := cell_keep (Hcell.out i hlt) hb3
              have c3 := cell_keep (Hcell.out m hmt) hb3
              have c4 := cell_keep (Hcell.out k hkt) hb3
              have i1 := Hin.out j hjt
              have i2 := Hin.out i hlt
              have i3 := Hin.out m hmt
              have i4 := Hin.out k hkt
              have HmI := Lib.hid hmI
              have Hm := Lib.hid hm
              have HK := Lib.hid hK
              have r1 : IntKind.i64.wrap ((k : Int) + j) = (k : Int) + j := IntWalk.i64_in _ (by omega)
              have r2 : IntKind.i64.wrap ((k : Int) + j - i) = (m : Int) := by rw [hmI]; exact IntWalk.i64_in _ (by omega)
              have r3 : IntKind.i64.wrap (nth l j - nth l i) = nth l j - nth l i := IntWalk.i64_in _ (by omega)
              have r4 : IntKind.i64.wrap (nth l m - nth l k) = nth l m - nth l k := IntWalk.i64_in _ (by omega)
              by_cases e : nth l j - nth l i = nth l m - nth l k
              · have q1 : (nth l j - nth l i == nth l m - nth l k) = true := by simp [e]
                have HE : Hid (hitP l i j k) := Lib.hid (by unfold hitP; rw [hm]; exact e)
                clear e hK hm
                generalize nth l j = y1 at *
                generalize nth l i = y2 at *
                generalize nth l m = y3 at *
                generalize nth l k = y4 at *
                go_wp2_with fail
                refine wp_region_quiet_lit (by kernel_rfl) (by kernel_rfl) ?_
                iterate 23 go_big_quiet_step (fail)
                refine wpQuiet_nil ?_
                intro _ hw'
                obtain ⟨nq, hw''⟩ := hw'
                subst hw''
                clear r1 r2 r3 r4 c1 c2 c3 c4 q1
                have hat4 : At (wr.drewN nq) w.heap.size 27 (ia 0 0 0 0) := hat3.drewN nq
                have hb4 : Keeps w (wr.drewN nq) := below_drewN hb3
                generalize wr.drewN nq = w5 at *
                go_wp2_with (first
                  | (refine wpList_store_row rfl 27 _ _ rfl w.heap.size (ia i j k m) rfl rfl 27 (ia 0 0 0 0) hat4 (sizeF _ _ _ _) rfl (by simp [ia, Value.oneCell']) ?_))
                obtain ⟨e1, e2⟩ := Hsome.out i j k m (by have hm := Hm.out; rw [← hm]; exact clearF_hit hij hik hjt (by omega) HE.out HI.out HJ.out HK.out)
                refine bodyPost_ret (v := .tuple #[.agg (ia i j k m), .bool false]) (results_row_tmp Try.results41 _ _ w.heap.size _ _ _ rfl (hat4.row _) Try.underlying27 rfl (sizeF _ _ _ _)) rfl ?_
                exact ⟨by rw [e1, e2], below_row hb4 (Nat.le_refl _) _⟩
              · have q1 : (nth l j - nth l i == nth l m - nth l k) = false := by simp [e]
                have HE : Hid (¬ hitP l i j k) := Lib.hid (fun h => e (by unfold hitP at h; rw [hm] at h; exact h))
                clear e hK hm
                generalize nth l j = y1 at *
                generalize nth l i = y2 at *
                generalize nth l m = y3 at *
                generalize nth l k = y4 at *
                go_wp2_with fail
                refine wp_region_quiet_lit (by kernel_rfl) (by kernel_rfl) ?_
                iterate 23 go_big_quiet_step (fail)
                refine wpQuiet_nil ?_
                intro _ hw'
                obtain ⟨nq, hw''⟩ := hw'
                subst hw''
                clear r1 r2 r3 r4 c1 c2 c3 c4 q1
                have hat4 : At (wr.drewN nq) w.heap.size 27 (ia 0 0 0 0) := hat3.drewN nq
                have hb4 : Keeps w (wr.drewN nq) := below_drewN hb3
                generalize wr.drewN nq = w5 at *
                go_wp2_with fail
                go_roundw
                case rel => exact ⟨k + 1, by omega, by omega, by go_num, HK.out.step HE.out, hb4, hat4⟩
                case measure => simp [intOf]; omega
            · have g1 : (l.length : Int) ≤ (k : Int) + j - i := by omega
              have HK := Lib.hid hK
              clear hK hm hmI
              go_wp2_with fail
              go_roundw
              case rel => exact ⟨j + 1, by omega, by omega, by go_num, HK.out.all hij (by omega) HJ.out, hb3, hat3⟩
              case measure => simp [intOf]; omega
        · have hje : l.length ≤ j := by omega
          have HJ := Lib.hid hJ
          clear hJ
          go_wp2_with fail
          go_roundw
          case rel => exact ⟨i + 1, by omega, by go_num, HJ.out.all hje HI.out, hb2, hat2⟩
          case measure => simp [intOf]; omega
    · have hie : i = l.length := by omega
      have HI := Lib.hid hI
      have Hie := Lib.hid hie
      clear hI hie
      go_wp2_with (first
        | (refine wpList_store_row rfl 27 _ _ rfl w.heap.size (ia 0 0 0 0) rfl rfl 27 (ia 0 0 0 0) hat (sizeF _ _ _ _) rfl (by simp [ia, Value.oneCell']) ?_))
      obtain ⟨e1, e2⟩ := Hnone.out (clearF_nohit (by have h := HI.out; rw [Hie.out] at h; exact h))
      refine bodyPost_ret (v := .tuple #[.agg (ia 0 0 0 0), .bool true]) (results_row_tmp Try.results41 _ _ w.heap.size _ _ _ rfl (hat.row _) Try.underlying27 rfl (sizeF _ _ _ _)) rfl ?_
      exact ⟨by rw [e1, e2], below_row hb (Nat.le_refl _) _⟩
end Go.Proofs.Ytdploccpobpjjaa
