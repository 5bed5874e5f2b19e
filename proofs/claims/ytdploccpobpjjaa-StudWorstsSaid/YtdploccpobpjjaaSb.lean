/- The walk of steps: an iterator that hands over all pairs of columns with their steps. -/
import Derived.Test.YtdploccpobpjjaaSa
import Derived.Test.YtdploccpobpjjaaRl
import Derived.OwnWalkIn
import Derived.TacticsInMore
import Derived.LoopNIn
import Derived.LoopIn
import Derived.OrdersIn
import Derived.Laws.EntriesVeiled
import Derived.Outline
namespace Go.Proofs.Ytdploccpobpjjaa
open Go.RowKit Go.Shelf
set_option linter.unusedVariables false
attribute [local go_sem] Oper.semAt_some

/-- The pairs of the column i and later ones from j on; of the columns from i on; all. -/
def rowP (n i j : Nat) : List (Nat × Nat) := (List.range' j (n - j)).map fun x => (i, x)
def prsF (n i : Nat) : List (Nat × Nat) := (List.range' i (n - i)).flatMap fun x => rowP n x (x + 1)
def prs (n : Nat) : List (Nat × Nat) := prsF n 0
theorem rowP_cons (n i j : Nat) (h : j < n) : rowP n i j = (i, j) :: rowP n i (j + 1) := by
  unfold rowP
  rw [show n - j = (n - (j + 1)) + 1 by omega, List.range'_succ]; rfl
theorem rowP_nil (n i j : Nat) (h : n ≤ j) : rowP n i j = [] := by
  unfold rowP; rw [show n - j = 0 by omega]; rfl
theorem prsF_cons (n i : Nat) (h : i < n) : prsF n i = rowP n i (i + 1) ++ prsF n (i + 1) := by
  unfold prsF
  rw [show n - i = (n - (i + 1)) + 1 by omega, List.range'_succ, List.flatMap_cons]
theorem prsF_nil (n i : Nat) (h : n ≤ i) : prsF n i = [] := by
  unfold prsF; rw [show n - i = 0 by omega]; rfl
theorem drop_cons {α : Type} {xs : List α} {k : Nat} {x : α} {t : List α} (h : xs.drop k = x :: t) : xs[k]? = some x ∧ xs.drop (k + 1) = t := by
  constructor
  · have := congrArg (·[0]?) h
    simpa using this
  · rw [← List.drop_drop, h]; rfl
theorem drop_nil {α : Type} {xs : List α} {k : Nat} (hk : k ≤ xs.length) (h : xs.drop k = []) : k = xs.length := by
  have := congrArg List.length h
  simp at this; omega
theorem prs_mem (n : Nat) (x : Nat × Nat) (h : x ∈ prs n) : x.1 < x.2 ∧ x.2 < n := by
  simp only [prs, prsF, rowP, List.mem_flatMap, List.mem_map, List.mem_range'_1] at h
  obtain ⟨i, hi, j, hj, rfl⟩ := h
  exact ⟨by simp only; omega, by simp only; omega⟩

theorem steps_c (A : Option Addr) (n c : Nat) (w : World) :
    Calls Try.prog 23 #[.slice A n c] w fun e w' => e = .returned (.func (.func 33) #[] #[.pointer (some ⟨w.heap.size, 0, none⟩)]) ∧ w.alloc (.cells #[.slice A n c] 22) = w' := by
  go_enter Try.func23, Try.ntmps23
  go_wp2
  go_ret
  exact ⟨rfl, rfl⟩

def encS (l : List Int) (_ : Nat) (x : Nat × Nat) : Array Value := #[.agg #[.int .i64 x.1, .int .i64 x.2], .agg #[.int .i64 (stp1 l x.1 x.2), .int .i64 (stp2 l x.1 x.2)]]
theorem sizePr (a b : Int) : (Try.prog.info? 50).map (·.size) = some (#[Value.int .i64 a, .int .i64 b] : Array Value).size := by
  show _ = some 2; kernel_rfl

set_option maxHeartbeats 4000000 in
set_option maxRecDepth 100000 in
theorem steps_iter (A : Option Addr) (c : Nat) (l : List Int) (hl : low l) (bx : Nat) (K : Nat → Prop) (hbx : K bx) (w0 : World) (hK : ∀ r, K r → r < w0.heap.size) (hat : At w0 bx 22 #[.slice A l.length c])
    (hv : ∀ X', Holds K w0 X' → RdI X' (.slice A l.length c) l) :
    Iter Try.prog 33 #[.pointer (some ⟨bx, 0, none⟩)] (encS l) (fun _ _ _ => True) K (prs l.length) w0 := by
  intro n q J Jx W hW hsz hJ hJx hY h0
  have hm : l.length ≤ 9223372036854775807 := by obtain ⟨_, _, _, h, _⟩ := hv w0 (Holds.refl _ _); unfold maxLen at h; omega
  have HJ := Lib.hid hJ
  have HJx := Lib.hid hJx
  have HY := Lib.hid hY
  have cW := (hat.holds hW hbx).cell 0
  simp only [List.getElem?_toArray, List.getElem?_cons_zero] at cW
  clear hJ hJx hY
  rw [show (#[Value.func (.yield q) #[] #[]] ++ #[Value.pointer (some ⟨bx, 0, none⟩)] : Array Value) = #[.func (.yield q) #[] #[], .pointer (some ⟨bx, 0, none⟩)] from rfl]
  refine (callsIn_wide (n := n + 1)).1 ?_
  refine callsIn_of_wp Try.func33 rfl trivial ?_ rfl
  simp only [Try.ntmps33, List.size_toArray, List.length_cons, List.length_nil, Nat.reduceAdd, Nat.reduceSub, Array.replicate_succ, Array.replicate_zero, List.push_toArray, List.append_toArray, List.nil_append, List.cons_append]
  gi_wp2_with fail
  gi_loopw [8] (fun s wr => ∃ (i k : Nat) (M : Nat → Prop), i ≤ l.length ∧ s = .int .i64 i ∧ k ≤ (prs l.length).length ∧ (prs l.length).drop k = prsF l.length i ∧ J k M wr ∧ (∀ r, M r → W.heap.size ≤ r ∧ r < wr.heap.size) ∧ Holds K W wr) (fun s _ => l.length - (intOf s).toNat)
  case atStart => exact ⟨0, 0, fun _ => False, Nat.zero_le _, rfl, Nat.zero_le _, rfl, h0, fun r h => h.elim, Holds.refl _ _⟩
  case round =>
    obtain ⟨i, k, M, hi, rfl, hkl, hd, hj, hM, hh⟩ := hrel
    by_cases hlt : i < l.length
    · rw [prsF_cons _ _ hlt] at hd
      have Hd := Lib.hid hd
      clear hd
      gi_wp2_with fail
      generalize wr = w4 at *
      gi_loopw [4] (fun s wr => ∃ (j k : Nat) (M : Nat → Prop), i + 1 ≤ j ∧ j ≤ l.length ∧ s = .int .i64 j ∧ k ≤ (prs l.length).length ∧ (prs l.length).drop k = rowP l.length i j ++ prsF l.length (i + 1) ∧ J k M wr ∧ (∀ r, M r → W.heap.size ≤ r ∧ r < wr.heap.size) ∧ Holds K W wr) (fun s _ => l.length - (intOf s).toNat)
      case atStart => exact ⟨i + 1, k, M, by omega, by omega, by go_num, hkl, Hd.out, hj, hM, hh⟩
      case round =>
        obtain ⟨j, k', M', hij, hjl, rfl, hkl', hd', hj', hM', hh'⟩ := hrel
        have hKr := hW.trans hh'
        have cR := (hat.holds hKr hbx).cell 0
        simp only [List.getElem?_toArray, List.getElem?_cons_zero] at cR
        by_cases hjlt : j < l.length
        · rw [rowP_cons _ _ _ hjlt] at hd'
          obtain ⟨hx, hd2⟩ := drop_cons hd'
          have Hx := Lib.hid hx
          have Hd2 := Lib.hid hd2
          clear hd' hx hd2
          gi_wp2_with (refine in_store_row rfl 50 _ _ rfl wr.heap.size #[.int .i64 i, .int .i64 j] rfl rfl 50 #[.int .i64 0, .int .i64 0] (At.new wr 50 _) (sizePr _ _) rfl (by simp [Value.oneCell']) ?_; have hp := (At.new wr 50 #[.int .i64 0, .int .i64 0]).row #[.int .i64 i, .int .i64 j]; have hwX : Keeps wr ((wr.alloc (.cells #[.int .i64 0, .int .i64 0] 50)).setRow wr.heap.size #[.int .i64 i, .int .i64 j]) := below_row (Keeps.alloc (Below.refl _ _) _) (Nat.le_refl _) _; have hgp : wr.heap.size < ((wr.alloc (.cells #[.int .i64 0, .int .i64 0] 50)).setRow wr.heap.size #[.int .i64 i, .int .i64 j]).heap.size := hp.lt; generalize (wr.alloc (.cells #[.int .i64 0, .int .i64 0] 50)).setRow wr.heap.size #[.int .i64 i, .int .i64 j] = X at *)
          have cX := (((hat.holds hKr hbx).later hwX).drew).cell 0
          simp only [List.getElem?_toArray, List.getElem?_cons_zero] at cX
          have hv2 : RdI X.drew (.slice A l.length c) l := hv _ (((hKr.trans (Holds.of_keeps hwX K))).drew)
          have hst := fun u x hx => stepOf_c u l hl i j hlt hjlt x hx
          have hp' := At.drew hp
          refine wpIn_region_any (by kernel_rfl) ?_
          change wpAnyIn _ _ _ _ _ _ _ _ _ (World.drew _)
          refine wpAnyIn_take (i := 0) (v := ?_) rfl rfl (by kernel_rfl) (by kernel_rfl) (by kernel_rfl) (fun _ _ _ h => h) ⟨Or.inl ⟨by rfl, ?_⟩, fun _ => rfl⟩ ?_
          · exact (.func (.yield q) #[] #[])
          · intro w; go_simp; try rfl
          have hp5 : At X.drew wr.heap.size 50 #[.int .i64 i, .int .i64 j] := hp'
          have hWr : W.heap.size ≤ wr.heap.size := hh'.size
          refine wpAnyIn_ready (rs := [1, 2, 3]) (by kernel_rfl) (by simp) ?_
          refine AllReadyIn.cons rfl (fun Kc hKc => ?_) ?_
          · refine si_load_row rfl 50 _ rfl wr.heap.size rfl 50 _ _ (by assumption) Try.underlying50 rfl (sizePr _ _) ?_
            refine hKc _ _ ?_
            clear hKc Kc
            refine wpAnyIn_ready (rs := [2, 3]) (by kernel_rfl) (by simp) ?_
            refine AllReadyIn.cons rfl (fun Kc hKc => ?_) ?_
            · go_simp
              refine hKc _ _ ?_
              clear hKc Kc
              refine wpAnyIn_ready (rs := [3]) (by kernel_rfl) (by simp) ?_
              refine AllReadyIn.cons rfl (fun Kc hKc => ?_) ?_
              · refine si_load_row rfl 50 _ rfl wr.heap.size rfl 50 _ _ (by assumption) Try.underlying50 rfl (sizePr _ _) ?_
                refine hKc _ _ ?_
                clear hKc Kc
                refine wpAnyIn_ready (rs := [4]) (by kernel_rfl) (by simp) ?_
                refine AllReadyIn.cons rfl (fun Kc hKc => ?_) ?_
                · go_simp
                  refine ⟨trivial, (callsIn_wide.2 (hst _ _ hv2)).mono ?_⟩
                  rintro e w5 ⟨rfl, hb5⟩
                  refine hKc _ _ ?_
                  clear hKc Kc
                  have hp6 := hp5.later hb5
                  have hXk : Keeps wr w5 := Keeps.next hwX (Keeps.next (Below.refl _ X).drew hb5)
                  obtain ⟨fn, tmps, assign, body, hy, hR⟩ := HY.out k' (i, j) M' w5 Hx.out (HJ.out k' M' wr w5 hj' (Holds.of_keeps hXk _)) (fun r hr => ⟨(hM' r hr).1, Nat.lt_of_lt_of_le (hM' r hr).2 hXk.size⟩) (hh'.trans (Holds.of_keeps hXk _)) trivial
                  rw [show encS l W.heap.size (i, j) = #[.agg #[.int .i64 i, .int .i64 j], .agg #[.int .i64 (stp1 l i j), .int .i64 (stp2 l i j)]] from rfl] at hy
                  refine wpAnyIn_ready (rs := [5]) (by kernel_rfl) (by simp) ?_
                  refine AllReadyIn.cons rfl (fun Kc hKc => ?_) ?_
                  · go_simp
                    refine hR.mono ?_
                    rintro e X' ⟨M2, m1, m2, hh2, hend⟩
                    clear hy hR
                    have hMb : ∀ r, M2 r → W.heap.size ≤ r ∧ r < X'.heap.size := fun r hr => ⟨(m2 r hr).elim (fun h => (hM' r h).1) (fun h => by have := hXk.size; have := hWr; omega), m1 r hr⟩
                    have hKX : Holds K W X' := (hh'.trans (Holds.of_keeps hXk _)).trans2 hh2 (fun r _ h => .inl h)
                    have hle := hh2.size
                    rcases hend with ⟨rfl, hj2⟩ | ⟨rfl, hj2⟩
                    · refine hKc _ _ ?_
                      clear hKc Kc
                      refine wpAnyIn_ready (rs := [6]) (by kernel_rfl) (by simp) ?_
                      refine AllReadyIn.cons rfl (fun Kc hKc => ?_) AllReadyIn.nil
                      go_simp
                      refine hKc _ _ ?_
                      clear hKc Kc
                      refine wpAnyIn_done (by kernel_rfl) ?_ _
                      gi_wp2_with fail
                      go_roundw
                      case rel => exact ⟨j + 1, k' + 1, M2, by omega, by omega, by go_num, by have := (List.getElem?_eq_some_iff.1 Hx.out).1; omega, Hd2.out, hj2, hMb, hKX⟩
                      case measure => simp [intOf]; omega
                    · refine hKc _ _ ?_
                      clear hKc Kc
                      refine wpAnyIn_ready (rs := [6]) (by kernel_rfl) (by simp) ?_
                      refine AllReadyIn.cons rfl (fun Kc hKc => ?_) AllReadyIn.nil
                      go_simp
                      refine hKc _ _ ?_
                      clear hKc Kc
                      refine wpAnyIn_done (by kernel_rfl) ?_ _
                      gi_wp2_with fail
                      refine bodyPost_ret (results_none Try.results33 _ _ _) rfl ⟨⟨_, rfl⟩, M2, hMb, .inr ⟨_, hj2⟩⟩
                  exact AllReadyIn.nil
                exact AllReadyIn.nil
              exact AllReadyIn.nil
            refine AllReadyIn.cons rfl (fun Kc hKc => ?_) ?_
            · refine si_load_row rfl 50 _ rfl wr.heap.size rfl 50 _ _ (by assumption) Try.underlying50 rfl (sizePr _ _) ?_
              refine hKc _ _ ?_
              clear hKc Kc
              refine wpAnyIn_ready (rs := [2]) (by kernel_rfl) (by simp) ?_
              refine AllReadyIn.cons rfl (fun Kc hKc => ?_) ?_
              · go_simp
                refine hKc _ _ ?_
                clear hKc Kc
                refine wpAnyIn_ready (rs := [4]) (by kernel_rfl) (by simp) ?_
                refine AllReadyIn.cons rfl (fun Kc hKc => ?_) ?_
                · go_simp
                  refine ⟨trivial, (callsIn_wide.2 (hst _ _ hv2)).mono ?_⟩
                  rintro e w5 ⟨rfl, hb5⟩
                  refine hKc _ _ ?_
                  clear hKc Kc
                  have hp6 := hp5.later hb5
                  have hXk : Keeps wr w5 := Keeps.next hwX (Keeps.next (Below.refl _ X).drew hb5)
                  obtain ⟨fn, tmps, assign, body, hy, hR⟩ := HY.out k' (i, j) M' w5 Hx.out (HJ.out k' M' wr w5 hj' (Holds.of_keeps hXk _)) (fun r hr => ⟨(hM' r hr).1, Nat.lt_of_lt_of_le (hM' r hr).2 hXk.size⟩) (hh'.trans (Holds.of_keeps hXk _)) trivial
                  rw [show encS l W.heap.size (i, j) = #[.agg #[.int .i64 i, .int .i64 j], .agg #[.int .i64 (stp1 l i j), .int .i64 (stp2 l i j)]] from rfl] at hy
                  refine wpAnyIn_ready (rs := [5]) (by kernel_rfl) (by simp) ?_
                  refine AllReadyIn.cons rfl (fun Kc hKc => ?_) ?_
                  · go_simp
                    refine hR.mono ?_
                    rintro e X' ⟨M2, m1, m2, hh2, hend⟩
                    clear hy hR
                    have hMb : ∀ r, M2 r → W.heap.size ≤ r ∧ r < X'.heap.size := fun r hr => ⟨(m2 r hr).elim (fun h => (hM' r h).1) (fun h => by have := hXk.size; have := hWr; omega), m1 r hr⟩
                    have hKX : Holds K W X' := (hh'.trans (Holds.of_keeps hXk _)).trans2 hh2 (fun r _ h => .inl h)
                    have hle := hh2.size
                    rcases hend with ⟨rfl, hj2⟩ | ⟨rfl, hj2⟩
                    · refine hKc _ _ ?_
                      clear hKc Kc
                      refine wpAnyIn_ready (rs := [6]) (by kernel_rfl) (by simp) ?_
                      refine AllReadyIn.cons rfl (fun Kc hKc => ?_) AllReadyIn.nil
                      go_simp
                      refine hKc _ _ ?_
                      clear hKc Kc
                      refine wpAnyIn_done (by kernel_rfl) ?_ _
                      gi_wp2_with fail
                      go_roundw
                      case rel => exact ⟨j + 1, k' + 1, M2, by omega, by omega, by go_num, by have := (List.getElem?_eq_some_iff.1 Hx.out).1; omega, Hd2.out, hj2, hMb, hKX⟩
                      case measure => simp [intOf]; omega
                    · refine hKc _ _ ?_
                      clear hKc Kc
                      refine wpAnyIn_ready (rs := [6]) (by kernel_rfl) (by simp) ?_
                      refine AllReadyIn.cons rfl (fun Kc hKc => ?_) AllReadyIn.nil
                      go_simp
                      refine hKc _ _ ?_
                      clear hKc Kc
                      refine wpAnyIn_done (by kernel_rfl) ?_ _
                      gi_wp2_with fail
                      refine bodyPost_ret (results_none Try.results33 _ _ _) rfl ⟨⟨_, rfl⟩, M2, hMb, .inr ⟨_, hj2⟩⟩
                  exact AllReadyIn.nil
                exact AllReadyIn.nil
              exact AllReadyIn.nil
            exact AllReadyIn.nil
          refine AllReadyIn.cons rfl (fun Kc hKc => ?_) ?_
          · go_simp
            refine hKc _ _ ?_
            clear hKc Kc
            refine wpAnyIn_ready (rs := [1, 3]) (by kernel_rfl) (by simp) ?_
            refine AllReadyIn.cons rfl (fun Kc hKc => ?_) ?_
            · refine si_load_row rfl 50 _ rfl wr.heap.size rfl 50 _ _ (by assumption) Try.underlying50 rfl (sizePr _ _) ?_
              refine hKc _ _ ?_
              clear hKc Kc
              refine wpAnyIn_ready (rs := [3]) (by kernel_rfl) (by simp) ?_
              refine AllReadyIn.cons rfl (fun Kc hKc => ?_) ?_
              · refine si_load_row rfl 50 _ rfl wr.heap.size rfl 50 _ _ (by assumption) Try.underlying50 rfl (sizePr _ _) ?_
                refine hKc _ _ ?_
                clear hKc Kc
                refine wpAnyIn_ready (rs := [4]) (by kernel_rfl) (by simp) ?_
                refine AllReadyIn.cons rfl (fun Kc hKc => ?_) ?_
                · go_simp
                  refine ⟨trivial, (callsIn_wide.2 (hst _ _ hv2)).mono ?_⟩
                  rintro e w5 ⟨rfl, hb5⟩
                  refine hKc _ _ ?_
                  clear hKc Kc
                  have hp6 := hp5.later hb5
                  have hXk : Keeps wr w5 := Keeps.next hwX (Keeps.next (Below.refl _ X).drew hb5)
                  obtain ⟨fn, tmps, assign, body, hy, hR⟩ := HY.out k' (i, j) M' w5 Hx.out (HJ.out k' M' wr w5 hj' (Holds.of_keeps hXk _)) (fun r hr => ⟨(hM' r hr).1, Nat.lt_of_lt_of_le (hM' r hr).2 hXk.size⟩) (hh'.trans (Holds.of_keeps hXk _)) trivial
                  rw [show encS l W.heap.size (i, j) = #[.agg #[.int .i64 i, .int .i64 j], .agg #[.int .i64 (stp1 l i j), .int .i64 (stp2 l i j)]] from rfl] at hy
                  refine wpAnyIn_ready (rs := [5]) (by kernel_rfl) (by simp) ?_
                  refine AllReadyIn.cons rfl (fun Kc hKc => ?_) ?_
                  · go_simp
                    refine hR.mono ?_
                    rintro e X' ⟨M2, m1, m2, hh2, hend⟩
                    clear hy hR
                    have hMb : ∀ r, M2 r → W.heap.size ≤ r ∧ r < X'.heap.size := fun r hr => ⟨(m2 r hr).elim (fun h => (hM' r h).1) (fun h => by have := hXk.size; have := hWr; omega), m1 r hr⟩
                    have hKX : Holds K W X' := (hh'.trans (Holds.of_keeps hXk _)).trans2 hh2 (fun r _ h => .inl h)
                    have hle := hh2.size
                    rcases hend with ⟨rfl, hj2⟩ | ⟨rfl, hj2⟩
                    · refine hKc _ _ ?_
                      clear hKc Kc
                      refine wpAnyIn_ready (rs := [6]) (by kernel_rfl) (by simp) ?_
                      refine AllReadyIn.cons rfl (fun Kc hKc => ?_) AllReadyIn.nil
                      go_simp
                      refine hKc _ _ ?_
                      clear hKc Kc
                      refine wpAnyIn_done (by kernel_rfl) ?_ _
                      gi_wp2_with fail
                      go_roundw
                      case rel => exact ⟨j + 1, k' + 1, M2, by omega, by omega, by go_num, by have := (List.getElem?_eq_some_iff.1 Hx.out).1; omega, Hd2.out, hj2, hMb, hKX⟩
                      case measure => simp [intOf]; omega
                    · refine hKc _ _ ?_
                      clear hKc Kc
                      refine wpAnyIn_ready (rs := [6]) (by kernel_rfl) (by simp) ?_
                      refine AllReadyIn.cons rfl (fun Kc hKc => ?_) AllReadyIn.nil
                      go_simp
                      refine hKc _ _ ?_
                      clear hKc Kc
                      refine wpAnyIn_done (by kernel_rfl) ?_ _
                      gi_wp2_with fail
                      refine bodyPost_ret (results_none Try.results33 _ _ _) rfl ⟨⟨_, rfl⟩, M2, hMb, .inr ⟨_, hj2⟩⟩
                  exact AllReadyIn.nil
                exact AllReadyIn.nil
              exact AllReadyIn.nil
            refine AllReadyIn.cons rfl (fun Kc hKc => ?_) ?_
            · refine si_load_row rfl 50 _ rfl wr.heap.size rfl 50 _ _ (by assumption) Try.underlying50 rfl (sizePr _ _) ?_
              refine hKc _ _ ?_
              clear hKc Kc
              refine wpAnyIn_ready (rs := [1, 4]) (by kernel_rfl) (by simp) ?_
              refine AllReadyIn.cons rfl (fun Kc hKc => ?_) ?_
              · refine si_load_row rfl 50 _ rfl wr.heap.size rfl 50 _ _ (by assumption) Try.underlying50 rfl (sizePr _ _) ?_
                refine hKc _ _ ?_
                clear hKc Kc
                refine wpAnyIn_ready (rs := [4]) (by kernel_rfl) (by simp) ?_
                refine AllReadyIn.cons rfl (fun Kc hKc => ?_) ?_
                · go_simp
                  refine ⟨trivial, (callsIn_wide.2 (hst _ _ hv2)).mono ?_⟩
                  rintro e w5 ⟨rfl, hb5⟩
                  refine hKc _ _ ?_
                  clear hKc Kc
                  have hp6 := hp5.later hb5
                  have hXk : Keeps wr w5 := Keeps.next hwX (Keeps.next (Below.refl _ X).drew hb5)
                  obtain ⟨fn, tmps, assign, body, hy, hR⟩ := HY.out k' (i, j) M' w5 Hx.out (HJ.out k' M' wr w5 hj' (Holds.of_keeps hXk _)) (fun r hr => ⟨(hM' r hr).1, Nat.lt_of_lt_of_le (hM' r hr).2 hXk.size⟩) (hh'.trans (Holds.of_keeps hXk _)) trivial
                  rw [show encS l W.heap.size (i, j) = #[.agg #[.int .i64 i, .int .i64 j], .agg #[.int .i64 (stp1 l i j), .int .i64 (stp2 l i j)]] from rfl] at hy
                  refine wpAnyIn_ready (rs := [5]) (by kernel_rfl) (by simp) ?_
                  refine AllReadyIn.cons rfl (fun Kc hKc => ?_) ?_
                  · go_simp
                    refine hR.mono ?_
                    rintro e X' ⟨M2, m1, m2, hh2, hend⟩
                    clear hy hR
                    have hMb : ∀ r, M2 r → W.heap.size ≤ r ∧ r < X'.heap.size := fun r hr => ⟨(m2 r hr).elim (fun h => (hM' r h).1) (fun h => by have := hXk.size; have := hWr; omega), m1 r hr⟩
                    have hKX : Holds K W X' := (hh'.trans (Holds.of_keeps hXk _)).trans2 hh2 (fun r _ h => .inl h)
                    have hle := hh2.size
                    rcases hend with ⟨rfl, hj2⟩ | ⟨rfl, hj2⟩
                    · refine hKc _ _ ?_
                      clear hKc Kc
                      refine wpAnyIn_ready (rs := [6]) (by kernel_rfl) (by simp) ?_
                      refine AllReadyIn.cons rfl (fun Kc hKc => ?_) AllReadyIn.nil
                      go_simp
                      refine hKc _ _ ?_
                      clear hKc Kc
                      refine wpAnyIn_done (by kernel_rfl) ?_ _
                      gi_wp2_with fail
                      go_roundw
                      case rel => exact ⟨j + 1, k' + 1, M2, by omega, by omega, by go_num, by have := (List.getElem?_eq_some_iff.1 Hx.out).1; omega, Hd2.out, hj2, hMb, hKX⟩
                      case measure => simp [intOf]; omega
                    · refine hKc _ _ ?_
                      clear hKc Kc
                      refine wpAnyIn_ready (rs := [6]) (by kernel_rfl) (by simp) ?_
                      refine AllReadyIn.cons rfl (fun Kc hKc => ?_) AllReadyIn.nil
                      go_simp
                      refine hKc _ _ ?_
                      clear hKc Kc
                      refine wpAnyIn_done (by kernel_rfl) ?_ _
                      gi_wp2_with fail
                      refine bodyPost_ret (results_none Try.results33 _ _ _) rfl ⟨⟨_, rfl⟩, M2, hMb, .inr ⟨_, hj2⟩⟩
                  exact AllReadyIn.nil
                exact AllReadyIn.nil
              refine AllReadyIn.cons rfl (fun Kc hKc => ?_) ?_
              · go_simp
                refine ⟨trivial, (callsIn_wide.2 (hst _ _ hv2)).mono ?_⟩
                rintro e w5 ⟨rfl, hb5⟩
                refine hKc _ _ ?_
                clear hKc Kc
                have hp6 := hp5.later hb5
                have hXk : Keeps wr w5 := Keeps.next hwX (Keeps.next (Below.refl _ X).drew hb5)
                obtain ⟨fn, tmps, assign, body, hy, hR⟩ := HY.out k' (i, j) M' w5 Hx.out (HJ.out k' M' wr w5 hj' (Holds.of_keeps hXk _)) (fun r hr => ⟨(hM' r hr).1, Nat.lt_of_lt_of_le (hM' r hr).2 hXk.size⟩) (hh'.trans (Holds.of_keeps hXk _)) trivial
                rw [show encS l W.heap.size (i, j) = #[.agg #[.int .i64 i, .int .i64 j], .agg #[.int .i64 (stp1 l i j), .int .i64 (stp2 l i j)]] from rfl] at hy
                refine wpAnyIn_ready (rs := [1]) (by kernel_rfl) (by simp) ?_
                refine AllReadyIn.cons rfl (fun Kc hKc => ?_) ?_
                · refine si_load_row rfl 50 _ rfl wr.heap.size rfl 50 _ _ (by assumption) Try.underlying50 rfl (sizePr _ _) ?_
                  refine hKc _ _ ?_
                  clear hKc Kc
                  refine wpAnyIn_ready (rs := [5]) (by kernel_rfl) (by simp) ?_
                  refine AllReadyIn.cons rfl (fun Kc hKc => ?_) ?_
                  · go_simp
                    refine hR.mono ?_
                    rintro e X' ⟨M2, m1, m2, hh2, hend⟩
                    clear hy hR
                    have hMb : ∀ r, M2 r → W.heap.size ≤ r ∧ r < X'.heap.size := fun r hr => ⟨(m2 r hr).elim (fun h => (hM' r h).1) (fun h => by have := hXk.size; have := hWr; omega), m1 r hr⟩
                    have hKX : Holds K W X' := (hh'.trans (Holds.of_keeps hXk _)).trans2 hh2 (fun r _ h => .inl h)
                    have hle := hh2.size
                    rcases hend with ⟨rfl, hj2⟩ | ⟨rfl, hj2⟩
                    · refine hKc _ _ ?_
                      clear hKc Kc
                      refine wpAnyIn_ready (rs := [6]) (by kernel_rfl) (by simp) ?_
                      refine AllReadyIn.cons rfl (fun Kc hKc => ?_) AllReadyIn.nil
                      go_simp
                      refine hKc _ _ ?_
                      clear hKc Kc
                      refine wpAnyIn_done (by kernel_rfl) ?_ _
                      gi_wp2_with fail
                      go_roundw
                      case rel => exact ⟨j + 1, k' + 1, M2, by omega, by omega, by go_num, by have := (List.getElem?_eq_some_iff.1 Hx.out).1; omega, Hd2.out, hj2, hMb, hKX⟩
                      case measure => simp [intOf]; omega
                    · refine hKc _ _ ?_
                      clear hKc Kc
                      refine wpAnyIn_ready (rs := [6]) (by kernel_rfl) (by simp) ?_
                      refine AllReadyIn.cons rfl (fun Kc hKc => ?_) AllReadyIn.nil
                      go_simp
                      refine hKc _ _ ?_
                      clear hKc Kc
                      refine wpAnyIn_done (by kernel_rfl) ?_ _
                      gi_wp2_with fail
                      refine bodyPost_ret (results_none Try.results33 _ _ _) rfl ⟨⟨_, rfl⟩, M2, hMb, .inr ⟨_, hj2⟩⟩
                  exact AllReadyIn.nil
                exact AllReadyIn.nil
              exact AllReadyIn.nil
            exact AllReadyIn.nil
          refine AllReadyIn.cons rfl (fun Kc hKc => ?_) ?_
          · refine si_load_row rfl 50 _ rfl wr.heap.size rfl 50 _ _ (by assumption) Try.underlying50 rfl (sizePr _ _) ?_
            refine hKc _ _ ?_
            clear hKc Kc
            refine wpAnyIn_ready (rs := [1, 2]) (by kernel_rfl) (by simp) ?_
            refine AllReadyIn.cons rfl (fun Kc hKc => ?_) ?_
            · refine si_load_row rfl 50 _ rfl wr.heap.size rfl 50 _ _ (by assumption) Try.underlying50 rfl (sizePr _ _) ?_
              refine hKc _ _ ?_
              clear hKc Kc
              refine wpAnyIn_ready (rs := [2]) (by kernel_rfl) (by simp) ?_
              refine AllReadyIn.cons rfl (fun Kc hKc => ?_) ?_
              · go_simp
                refine hKc _ _ ?_
                clear hKc Kc
                refine wpAnyIn_ready (rs := [4]) (by kernel_rfl) (by simp) ?_
                refine AllReadyIn.cons rfl (fun Kc hKc => ?_) ?_
                · go_simp
                  refine ⟨trivial, (callsIn_wide.2 (hst _ _ hv2)).mono ?_⟩
                  rintro e w5 ⟨rfl, hb5⟩
                  refine hKc _ _ ?_
                  clear hKc Kc
                  have hp6 := hp5.later hb5
                  have hXk : Keeps wr w5 := Keeps.next hwX (Keeps.next (Below.refl _ X).drew hb5)
                  obtain ⟨fn, tmps, assign, body, hy, hR⟩ := HY.out k' (i, j) M' w5 Hx.out (HJ.out k' M' wr w5 hj' (Holds.of_keeps hXk _)) (fun r hr => ⟨(hM' r hr).1, Nat.lt_of_lt_of_le (hM' r hr).2 hXk.size⟩) (hh'.trans (Holds.of_keeps hXk _)) trivial
                  rw [show encS l W.heap.size (i, j) = #[.agg #[.int .i64 i, .int .i64 j], .agg #[.int .i64 (stp1 l i j), .int .i64 (stp2 l i j)]] from rfl] at hy
                  refine wpAnyIn_ready (rs := [5]) (by kernel_rfl) (by simp) ?_
                  refine AllReadyIn.cons rfl (fun Kc hKc => ?_) ?_
                  · go_simp
                    refine hR.mono ?_
                    rintro e X' ⟨M2, m1, m2, hh2, hend⟩
                    clear hy hR
                    have hMb : ∀ r, M2 r → W.heap.size ≤ r ∧ r < X'.heap.size := fun r hr => ⟨(m2 r hr).elim (fun h => (hM' r h).1) (fun h => by have := hXk.size; have := hWr; omega), m1 r hr⟩
                    have hKX : Holds K W X' := (hh'.trans (Holds.of_keeps hXk _)).trans2 hh2 (fun r _ h => .inl h)
                    have hle := hh2.size
                    rcases hend with ⟨rfl, hj2⟩ | ⟨rfl, hj2⟩
                    · refine hKc _ _ ?_
                      clear hKc Kc
                      refine wpAnyIn_ready (rs := [6]) (by kernel_rfl) (by simp) ?_
                      refine AllReadyIn.cons rfl (fun Kc hKc => ?_) AllReadyIn.nil
                      go_simp
                      refine hKc _ _ ?_
                      clear hKc Kc
                      refine wpAnyIn_done (by kernel_rfl) ?_ _
                      gi_wp2_with fail
                      go_roundw
                      case rel => exact ⟨j + 1, k' + 1, M2, by omega, by omega, by go_num, by have := (List.getElem?_eq_some_iff.1 Hx.out).1; omega, Hd2.out, hj2, hMb, hKX⟩
                      case measure => simp [intOf]; omega
                    · refine hKc _ _ ?_
                      clear hKc Kc
                      refine wpAnyIn_ready (rs := [6]) (by kernel_rfl) (by simp) ?_
                      refine AllReadyIn.cons rfl (fun Kc hKc => ?_) AllReadyIn.nil
                      go_simp
                      refine hKc _ _ ?_
                      clear hKc Kc
                      refine wpAnyIn_done (by kernel_rfl) ?_ _
                      gi_wp2_with fail
                      refine bodyPost_ret (results_none Try.results33 _ _ _) rfl ⟨⟨_, rfl⟩, M2, hMb, .inr ⟨_, hj2⟩⟩
                  exact AllReadyIn.nil
                exact AllReadyIn.nil
              exact AllReadyIn.nil
            refine AllReadyIn.cons rfl (fun Kc hKc => ?_) ?_
            · go_simp
              refine hKc _ _ ?_
              clear hKc Kc
              refine wpAnyIn_ready (rs := [1, 4]) (by kernel_rfl) (by simp) ?_
              refine AllReadyIn.cons rfl (fun Kc hKc => ?_) ?_
              · refine si_load_row rfl 50 _ rfl wr.heap.size rfl 50 _ _ (by assumption) Try.underlying50 rfl (sizePr _ _) ?_
                refine hKc _ _ ?_
                clear hKc Kc
                refine wpAnyIn_ready (rs := [4]) (by kernel_rfl) (by simp) ?_
                refine AllReadyIn.cons rfl (fun Kc hKc => ?_) ?_
                · go_simp
                  refine ⟨trivial, (callsIn_wide.2 (hst _ _ hv2)).mono ?_⟩
                  rintro e w5 ⟨rfl, hb5⟩
                  refine hKc _ _ ?_
                  clear hKc Kc
                  have hp6 := hp5.later hb5
                  have hXk : Keeps wr w5 := Keeps.next hwX (Keeps.next (Below.refl _ X).drew hb5)
                  obtain ⟨fn, tmps, assign, body, hy, hR⟩ := HY.out k' (i, j) M' w5 Hx.out (HJ.out k' M' wr w5 hj' (Holds.of_keeps hXk _)) (fun r hr => ⟨(hM' r hr).1, Nat.lt_of_lt_of_le (hM' r hr).2 hXk.size⟩) (hh'.trans (Holds.of_keeps hXk _)) trivial
                  rw [show encS l W.heap.size (i, j) = #[.agg #[.int .i64 i, .int .i64 j], .agg #[.int .i64 (stp1 l i j), .int .i64 (stp2 l i j)]] from rfl] at hy
                  refine wpAnyIn_ready (rs := [5]) (by kernel_rfl) (by simp) ?_
                  refine AllReadyIn.cons rfl (fun Kc hKc => ?_) ?_
                  · go_simp
                    refine hR.mono ?_
                    rintro e X' ⟨M2, m1, m2, hh2, hend⟩
                    clear hy hR
                    have hMb : ∀ r, M2 r → W.heap.size ≤ r ∧ r < X'.heap.size := fun r hr => ⟨(m2 r hr).elim (fun h => (hM' r h).1) (fun h => by have := hXk.size; have := hWr; omega), m1 r hr⟩
                    have hKX : Holds K W X' := (hh'.trans (Holds.of_keeps hXk _)).trans2 hh2 (fun r _ h => .inl h)
                    have hle := hh2.size
                    rcases hend with ⟨rfl, hj2⟩ | ⟨rfl, hj2⟩
                    · refine hKc _ _ ?_
                      clear hKc Kc
                      refine wpAnyIn_ready (rs := [6]) (by kernel_rfl) (by simp) ?_
                      refine AllReadyIn.cons rfl (fun Kc hKc => ?_) AllReadyIn.nil
                      go_simp
                      refine hKc _ _ ?_
                      clear hKc Kc
                      refine wpAnyIn_done (by kernel_rfl) ?_ _
                      gi_wp2_with fail
                      go_roundw
                      case rel => exact ⟨j + 1, k' + 1, M2, by omega, by omega, by go_num, by have := (List.getElem?_eq_some_iff.1 Hx.out).1; omega, Hd2.out, hj2, hMb, hKX⟩
                      case measure => simp [intOf]; omega
                    · refine hKc _ _ ?_
                      clear hKc Kc
                      refine wpAnyIn_ready (rs := [6]) (by kernel_rfl) (by simp) ?_
                      refine AllReadyIn.cons rfl (fun Kc hKc => ?_) AllReadyIn.nil
                      go_simp
                      refine hKc _ _ ?_
                      clear hKc Kc
                      refine wpAnyIn_done (by kernel_rfl) ?_ _
                      gi_wp2_with fail
                      refine bodyPost_ret (results_none Try.results33 _ _ _) rfl ⟨⟨_, rfl⟩, M2, hMb, .inr ⟨_, hj2⟩⟩
                  exact AllReadyIn.nil
                exact AllReadyIn.nil
              refine AllReadyIn.cons rfl (fun Kc hKc => ?_) ?_
              · go_simp
                refine ⟨trivial, (callsIn_wide.2 (hst _ _ hv2)).mono ?_⟩
                rintro e w5 ⟨rfl, hb5⟩
                refine hKc _ _ ?_
                clear hKc Kc
                have hp6 := hp5.later hb5
                have hXk : Keeps wr w5 := Keeps.next hwX (Keeps.next (Below.refl _ X).drew hb5)
                obtain ⟨fn, tmps, assign, body, hy, hR⟩ := HY.out k' (i, j) M' w5 Hx.out (HJ.out k' M' wr w5 hj' (Holds.of_keeps hXk _)) (fun r hr => ⟨(hM' r hr).1, Nat.lt_of_lt_of_le (hM' r hr).2 hXk.size⟩) (hh'.trans (Holds.of_keeps hXk _)) trivial
                rw [show encS l W.heap.size (i, j) = #[.agg #[.int .i64 i, .int .i64 j], .agg #[.int .i64 (stp1 l i j), .int .i64 (stp2 l i j)]] from rfl] at hy
                refine wpAnyIn_ready (rs := [1]) (by kernel_rfl) (by simp) ?_
                refine AllReadyIn.cons rfl (fun Kc hKc => ?_) ?_
                · refine si_load_row rfl 50 _ rfl wr.heap.size rfl 50 _ _ (by assumption) Try.underlying50 rfl (sizePr _ _) ?_
                  refine hKc _ _ ?_
                  clear hKc Kc
                  refine wpAnyIn_ready (rs := [5]) (by kernel_rfl) (by simp) ?_
                  refine AllReadyIn.cons rfl (fun Kc hKc => ?_) ?_
                  · go_simp
                    refine hR.mono ?_
                    rintro e X' ⟨M2, m1, m2, hh2, hend⟩
                    clear hy hR
                    have hMb : ∀ r, M2 r → W.heap.size ≤ r ∧ r < X'.heap.size := fun r hr => ⟨(m2 r hr).elim (fun h => (hM' r h).1) (fun h => by have := hXk.size; have := hWr; omega), m1 r hr⟩
                    have hKX : Holds K W X' := (hh'.trans (Holds.of_keeps hXk _)).trans2 hh2 (fun r _ h => .inl h)
                    have hle := hh2.size
                    rcases hend with ⟨rfl, hj2⟩ | ⟨rfl, hj2⟩
                    · refine hKc _ _ ?_
                      clear hKc Kc
                      refine wpAnyIn_ready (rs := [6]) (by kernel_rfl) (by simp) ?_
                      refine AllReadyIn.cons rfl (fun Kc hKc => ?_) AllReadyIn.nil
                      go_simp
                      refine hKc _ _ ?_
                      clear hKc Kc
                      refine wpAnyIn_done (by kernel_rfl) ?_ _
                      gi_wp2_with fail
                      go_roundw
                      case rel => exact ⟨j + 1, k' + 1, M2, by omega, by omega, by go_num, by have := (List.getElem?_eq_some_iff.1 Hx.out).1; omega, Hd2.out, hj2, hMb, hKX⟩
                      case measure => simp [intOf]; omega
                    · refine hKc _ _ ?_
                      clear hKc Kc
                      refine wpAnyIn_ready (rs := [6]) (by kernel_rfl) (by simp) ?_
                      refine AllReadyIn.cons rfl (fun Kc hKc => ?_) AllReadyIn.nil
                      go_simp
                      refine hKc _ _ ?_
                      clear hKc Kc
                      refine wpAnyIn_done (by kernel_rfl) ?_ _
                      gi_wp2_with fail
                      refine bodyPost_ret (results_none Try.results33 _ _ _) rfl ⟨⟨_, rfl⟩, M2, hMb, .inr ⟨_, hj2⟩⟩
                  exact AllReadyIn.nil
                exact AllReadyIn.nil
              exact AllReadyIn.nil
            exact AllReadyIn.nil
          exact AllReadyIn.nil
        · have hje : j = l.length := by omega
          subst hje
          rw [rowP_nil _ _ _ (Nat.le_refl _), List.nil_append] at hd'
          have Hd' := Lib.hid hd'
          clear hd'
          gi_wp2_with fail
          go_roundw
          case rel => exact ⟨i + 1, k', M', by omega, by go_num, hkl', Hd'.out, hj', hM', hh'⟩
          case measure => simp [intOf]; omega
    · have hie : i = l.length := by omega
      have hke : k = (prs l.length).length := drop_nil hkl (by rw [hd, prsF_nil _ _ (by omega)])
      have Hke := Lib.hid hke
      clear hke hd
      gi_wp2_with fail
      go_end0
      exact ⟨⟨_, rfl⟩, M, hM, .inl (by rw [← Hke.out]; exact hj)⟩
end Go.Proofs.Ytdploccpobpjjaa
