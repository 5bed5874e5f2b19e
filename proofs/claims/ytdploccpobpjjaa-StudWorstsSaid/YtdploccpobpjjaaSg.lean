/- The walk of Count. -/
import Derived.Test.YtdploccpobpjjaaSf
namespace Go.Proofs.Ytdploccpobpjjaa
open Go.RowKit Go.Shelf
set_option linter.unusedVariables false
attribute [local go_sem] Oper.semAt_some

def cntB (n : Int) : Bool := decide (1 ≤ n ∧ n ≤ 7)
theorem isCounted_c (n : Int) (w : World) : Calls Try.prog 39 #[.int .i64 n] w fun e w' => e = .returned (.bool (cntB n)) ∧ w = w' := by
  by_cases h1 : 1 ≤ n
  · by_cases h2 : n ≤ 7
    · have : cntB n = true := by simp [cntB, h1, h2]
      rw [this]
      clear this
      go_enter Try.func39, Try.ntmps39
      go_wp2_with fail
      go_ret
      exact ⟨rfl, rfl⟩
    · have : cntB n = false := by simp [cntB, h2]
      rw [this]
      clear this
      go_enter Try.func39, Try.ntmps39
      go_wp2_with fail
      go_ret
      exact ⟨rfl, rfl⟩
  · have : cntB n = false := by simp [cntB, h1]
    rw [this]
    clear this
    have hd : decide (1 ≤ n) = false := by simpa using h1
    go_enter Try.func39, Try.ntmps39
    go_wp2_with fail
    go_ret
    exact ⟨rfl, rfl⟩

theorem length_flatMap_le {α β : Type} (f : α → List β) (N : Nat) : ∀ (l : List α), (∀ x ∈ l, (f x).length ≤ N) → (l.flatMap f).length ≤ l.length * N
  | [], _ => by simp
  | x :: l, h => by
    have h1 := h x (by simp)
    have h2 := length_flatMap_le f N l (fun y hy => h y (by simp [hy]))
    simp only [List.flatMap_cons, List.length_append, List.length_cons, Nat.succ_mul]
    omega
theorem cext_length (d : Nat) : ∀ (fuel : Nat) (pre : List Int), (cext d fuel pre).length ≤ d ^ fuel
  | 0, pre => by simp [cext]
  | fuel + 1, pre => by
    have h := length_flatMap_le (fun s : Nat => if badR pre s then [] else cext d fuel (pre ++ [(s : Int)])) (d ^ fuel) (List.range d) (fun s _ => by
      split
      · simp
      · exact cext_length d fuel _)
    rw [List.length_range] at h
    rw [Nat.pow_succ, Nat.mul_comm]
    exact h
theorem pow_le7 (d f : Nat) (hd : d ≤ 7) (hf : f ≤ 7) : d ^ f ≤ 823543 :=
  Nat.le_trans (Nat.pow_le_pow_left hd f) (Nat.le_trans (Nat.pow_le_pow_right (by decide) hf) (by decide))
theorem clrs_length (start : List Int) (d : Nat) (hd : d ≤ 7) : (clrs start d).length ≤ 823543 := by
  unfold clrs
  split
  · exact Nat.le_trans (cext_length d _ start) (pow_le7 d _ hd (by omega))
  · simp
theorem nil_rd (w : World) : RdI w (.slice none 0 0) [] := ⟨none, 0, rfl, by unfold maxLen; simp, fun k hk => by simp at hk⟩

set_option maxHeartbeats 2000000 in
set_option maxRecDepth 100000 in
theorem count_yes (d : Nat) (d1 : 1 ≤ d) (d5 : d ≤ 7) (w : World) :
    Calls Try.prog 26 #[.int .i64 d] w fun e w' => e = .returned (.tuple #[.int .i64 (clrs [] d).length, .int .i64 0]) ∧ Keeps w w' := by
  have hlen := clrs_length [] d d5
  have hB : cntB d = true := by simp [cntB]; omega
  have hic := fun x => isCounted_c d x
  rw [hB] at hic
  clear hB
  refine (callsIn_wide (n := 5)).1 ?_
  refine callsIn_of_wp_marks Try.func26 rfl trivial ?_ rfl
  simp only [Try.ntmps26, List.size_toArray, List.length_cons, List.length_nil, Nat.reduceAdd, Nat.reduceSub, Array.replicate_succ, Array.replicate_zero, List.push_toArray, List.append_toArray, List.nil_append, List.cons_append]
  gi_wp2_with fail
  refine ⟨trivial, (callsIn_wide.2 (hic _)).mono ?_⟩
  rintro e w1 ⟨rfl, rfl⟩
  gi_wp2_with fail
  refine ⟨trivial, (callsIn_wide.2 (clearOrders_c none 0 0 d _)).mono ?_⟩
  rintro e w2 ⟨rfl, rfl⟩
  gi_wp2_with fail
  obtain ⟨Y, hY⟩ : ∃ Y, ((w.alloc (.cells #[.int .i64 0] 3)).alloc (.cells #[.slice none 0 0] 22)).alloc (.cells #[.int .i64 d] 3) = Y := ⟨_, rfl⟩
  have hYs : Y.heap.size = w.heap.size + 3 := by rw [← hY]; simp
  have hcY : At Y w.heap.size 3 #[.int .i64 0] := by rw [← hY]; exact ((At.new w _ _).alloc _).alloc _
  have hsY : At Y (w.heap.size + 1) 22 #[.slice none 0 0] := by rw [← hY]; exact (At.new2 w _ _ _).alloc _
  have hdY : At Y (w.heap.size + 1 + 1) 3 #[.int .i64 d] := by rw [← hY]; exact At.new' _ _ (by simp) _ _
  have hkY : Keeps w Y := by rw [← hY]; exact Keeps.alloc (Keeps.alloc (Keeps.alloc (Below.refl _ _) _) _) _
  rw [hY]
  clear hY
  refine range_mine (clrs [] d) (gf := 45) (lb := #[.pointer (some ⟨w.heap.size + 1 + 1, 0, none⟩), .pointer (some ⟨w.heap.size + 1, 0, none⟩)]) rfl (enters_of Try.func45 (by kernel_rfl) rfl)
    (clr_iter d d1 d5 none 0 [] (Nat.zero_le _) rfl (Nat.le_refl _) (w.heap.size + 1 + 1) (w.heap.size + 1) (fun r => r = w.heap.size + 1 + 1 ∨ r = w.heap.size + 1) (.inl rfl) (.inr rfl) Y (fun r h => by omega) hdY hsY (fun X' _ => nil_rd X'))
    (fun _ _ => rfl) (fun r h => by omega) (fun B x A A' hh h => h.holds hh (by omega))
    (fun k _ Z => At Z w.heap.size 3 #[.int .i64 k] ∧ Below w.heap.size w Z) (fun _ _ _ => False)
    (fun k M Z Z' h hh => ⟨h.1.holds hh (.inl (by omega)), ((Holds.of_below h.2).trans2 hh (fun r _ h => .inl (by omega))).below (Nat.le_refl _)⟩) (fun _ _ _ _ h _ => h) ⟨hcY, hkY⟩
    (fun x a' _ => a' = { tmps := #[.int .i64 d, undef, .int .i64 0, .int .i64 0, .pointer (some ⟨w.heap.size, 0, none⟩), .int .i64 d, .bool true, .bool false, .int .i64 d, .func (.func 45) #[] #[.pointer (some ⟨w.heap.size + 1 + 1, 0, none⟩), .pointer (some ⟨w.heap.size + 1, 0, none⟩)],
      .slice (some ⟨Y.heap.size + 2 + 1, 0, none⟩) d d, undef, undef, undef], defers := [] })
    (fun _ _ _ _ _ h => h) ?assign ?body ?done ?stop
  case assign =>
    intro l' j x M1 Z _ _ _ _
    have HYs := Lib.hid hYs
    clear hYs
    gi_wp2
    exact ⟨Holds.refl _ _, by simp⟩
  case body =>
    rintro l' j x M1 a' Z hx ⟨hc, hbel⟩ hM1 hKin _ rfl hsz
    have hj := (List.getElem?_eq_some_iff.1 hx).1
    have cc := hc.cell 0
    have fc := hc.frozen 0
    simp only [List.getElem?_toArray, List.getElem?_cons_zero] at cc
    have HYs := Lib.hid hYs
    clear hYs hx
    gi_wp2
    have hYs := HYs.out
    refine ⟨M1, fun r hr => Nat.lt_of_lt_of_le (hM1 r hr).2 (by simp [World.setCell]), fun r h => .inl h, (Holds.refl _ Z).set _ (by simp; omega) _, ?_, hbel.setCell (by simp) _⟩
    have := hc.set 0 (.int .i64 (j + 1))
    exact this
  case done =>
    rintro M1 Z ⟨hc, hbel⟩ hK hM1
    have cc := hc.cell 0
    simp only [List.getElem?_toArray, List.getElem?_cons_zero] at cc
    have HYs := Lib.hid hYs
    have HK := Lib.hid hK
    clear hYs hK
    gi_wp2
    have hYs := HYs.out
    refine ⟨by simp, .inl ⟨_, _, rfl, run_takeDeferred HK.out, ?_⟩⟩
    exact ⟨_, results_tmp2 Try.results26 _ _ _, rfl, ((Holds.of_below hbel).put _ (by omega) _).below (Nat.le_refl _)⟩
  case stop =>
    rintro j M1 Z h _ _
    exact h.elim
def cntN (n : Int) : Int := if cntB n then (clrs [] n.toNat).length else 0
def codeE (b : Bool) : Int := if b then 0 else 2
set_option maxHeartbeats 1000000 in
theorem count_c (n : Int) (w : World) :
    Calls Try.prog 26 #[.int .i64 n] w fun e w' => e = .returned (.tuple #[.int .i64 (cntN n), .int .i64 (codeE (cntB n))]) ∧ Keeps w w' := by
  by_cases hB : cntB n = true
  · have h : 1 ≤ n ∧ n ≤ 7 := by simpa [cntB] using hB
    have := count_yes n.toNat (by omega) (by omega) w
    rw [Int.toNat_of_nonneg (by omega)] at this
    rw [cntN, codeE, if_pos hB, if_pos hB]
    exact this
  · have hB' : cntB n = false := by simpa using hB
    have hic := fun x => isCounted_c n x
    rw [hB'] at hic
    rw [cntN, codeE, if_neg hB, if_neg hB]
    clear hB hB'
    go_enter Try.func26, Try.ntmps26
    go_wp2_with (go_at_call 39; refine (hic _).mono ?_; rintro e w1 ⟨rfl, rfl⟩)
    go_ret2
    exact ⟨rfl, Below.refl _ _⟩
theorem ev_count5 : cntN 5 = 40 := by decide +kernel
end Go.Proofs.Ytdploccpobpjjaa
