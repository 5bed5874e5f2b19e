/- The contract of casing.Ways. -/
import Derived.Test.YtikedhkibdeheaaQg
import Derived.Test.YtikedhkibdeheaaGx
namespace Go.Proofs.Ytikedhkibdeheaa
open Go.RowKit
set_option linter.unusedVariables false

set_option maxHeartbeats 1000000 in
theorem pways_no1 (v : Value) (t : List (List Int)) (hB : windB t = false) (w : World) (ht : RdT w v t) :
    Calls Try.prog 24 #[v] w fun e w' => e = .returned (.tuple #[.slice none 0 0, .int .i64 2]) ∧ Keeps w w' := by
  have hwind := wind_c v t w ht
  rw [hB] at hwind
  have hsz22 := windW_length t
  generalize windW t = W at *
  go_enter Try.func24, Try.ntmps24
  go_wp2_with (
    first
    | (go_at_call 47; refine hwind.mono ?_; rintro e w1 ⟨rfl, hb1⟩)
    | (refine wpList_store_row rfl 78 _ _ rfl w1.heap.size (ic W) rfl rfl 78 (ic (w0 0 0)) (At.new w1 78 (ic (w0 0 0))) (sizeW _ hsz22) (by rw [ic_size, ic_size, hsz22]; rfl) (ic_one _) ?_))
  refine bodyPost_ret (results_tmp2 (t := 2) (u := 3) (by rfl) _ _ _) rfl ⟨rfl, below_row (Keeps.alloc hb1 _) hb1.size _⟩
set_option maxHeartbeats 1000000 in
theorem pways_no2 (v : Value) (t : List (List Int)) (hB : windB t = true) (hS : stdB (windW t) = false) (w : World) (ht : RdT w v t) :
    Calls Try.prog 24 #[v] w fun e w' => e = .returned (.tuple #[.slice none 0 0, .int .i64 2]) ∧ Keeps w w' := by
  obtain ⟨hg12, d1, d5, _⟩ := windB_parts t hB
  have hWd := windW_okd t hB
  have hW : wok (windW t) := wokd_wok hWd (by omega)
  have hg : nth (windW t) 0 = 1 ∨ nth (windW t) 0 = 2 := by rw [windW_nth0 t hB]; omega
  have hwind := wind_c v t w ht
  have hstd := fun x => isStandard_c (windW t) hW hg x
  rw [hB] at hwind
  rw [hS] at hstd
  generalize windW t = W at *
  go_enter Try.func24, Try.ntmps24
  go_wp2_with (
    first
    | (go_at_call 47; refine hwind.mono ?_; rintro e w1 ⟨rfl, hb1⟩)
    | (
      refine wpList_store_row rfl 78 _ _ rfl w1.heap.size (ic W) rfl rfl 78 (ic (w0 0 0)) (At.new w1 78 (ic (w0 0 0))) (sizeW _ hW.1) (by rw [ic_size, ic_size, hW.1]; rfl) (ic_one _) ?_
      change wpList _ _ _ _ _ ((w1.alloc (.cells (ic (w0 0 0)) 78)).setRow w1.heap.size (ic W))
      have hx1 := (At.new w1 78 (ic (w0 0 0))).row (ic W)
      have hkx : Keeps w ((w1.alloc (.cells (ic (w0 0 0)) 78)).setRow w1.heap.size (ic W)) := below_row (Keeps.alloc hb1 _) hb1.size _
      generalize (w1.alloc (.cells (ic (w0 0 0)) 78)).setRow w1.heap.size (ic W) = X at *
      generalize w1.heap.size = gb at *)
    | (refine load_row_w rfl 78 _ rfl gb rfl 78 (ic W) (0, 0) _ hx1 Try.underlying78 rfl (sizeW W hW.1) ?_)
    | (go_at_call 48; refine (hstd _).mono ?_; rintro e w2 ⟨rfl, hb2⟩))
  refine bodyPost_ret (results_tmp2 (t := 2) (u := 3) (by rfl) _ _ _) rfl ⟨rfl, Keeps.next hkx hb2⟩

set_option maxHeartbeats 2000000 in
set_option maxRecDepth 100000 in
theorem pways_yes (v : Value) (t : List (List Int)) (hB : windB t = true) (hS : stdB (windW t) = true) (w : World) (ht : RdT w v t) :
    Calls Try.prog 24 #[v] w fun e w' => ∃ u, e = .returned (.tuple #[u, .int .i64 0]) ∧ RdS w' u (waysT t) ∧ Keeps w w' := by
  obtain ⟨hg12, d1, d5, _⟩ := windB_parts t hB
  have hWd := windW_okd t hB
  have hW : wok (windW t) := wokd_wok hWd (by omega)
  have hg : nth (windW t) 0 = 1 ∨ nth (windW t) 0 = 2 := by rw [windW_nth0 t hB]; omega
  have hlen := stdB_len t hB hS
  have hwind := wind_c v t w ht
  have hstd := fun x => isStandard_c (windW t) hW hg x
  have hway := fun x => ways_c (windW t) hW hg (shN t) (windW_nth1 t hB) d1 d5 hlen x
  have hn : numS (sg (windW t)) (2 * nth (windW t) 0).toNat 0 = numT t 0 := by rw [windW_nth0 t hB, show (2 * (t.length : Int)).toNat = 2 * t.length by omega, numT]
  rw [hn] at hway hlen
  have hY : waysT t = (wayL (numT t 0) (shN t - 1)).map fun l => (⟨l.toArray⟩ : ByteArray) := by rw [waysT, hlen]
  have hYl : (wayL (numT t 0) (shN t - 1)).length = shN t := by rw [wayL_length]; omega
  rw [hB] at hwind
  rw [hS] at hstd
  rw [hY]
  generalize wayL (numT t 0) (shN t - 1) = Y at *
  have HYl := Lib.hid hYl
  clear hY hn hlen hYl
  generalize windW t = W at *
  go_enter Try.func24, Try.ntmps24
  go_wp2_with (
    first
    | (go_at_call 47; refine hwind.mono ?_; rintro e w1 ⟨rfl, hb1⟩)
    | (
      refine wpList_store_row rfl 78 _ _ rfl w1.heap.size (ic W) rfl rfl 78 (ic (w0 0 0)) (At.new w1 78 (ic (w0 0 0))) (sizeW _ hW.1) (by rw [ic_size, ic_size, hW.1]; rfl) (ic_one _) ?_
      change wpList _ _ _ _ _ ((w1.alloc (.cells (ic (w0 0 0)) 78)).setRow w1.heap.size (ic W))
      have hx1 := (At.new w1 78 (ic (w0 0 0))).row (ic W)
      have hkx : Keeps w ((w1.alloc (.cells (ic (w0 0 0)) 78)).setRow w1.heap.size (ic W)) := below_row (Keeps.alloc hb1 _) hb1.size _
      generalize (w1.alloc (.cells (ic (w0 0 0)) 78)).setRow w1.heap.size (ic W) = X at *
      generalize w1.heap.size = gb at *)
    | (refine wpList_load_row rfl 78 _ rfl gb rfl 78 (ic W) (0, 0) _ hx3 Try.underlying78 rfl (sizeW W hW.1) ?_)
    | (refine load_row_w rfl 78 _ rfl gb rfl 78 (ic W) (0, 0) _ hx1 Try.underlying78 rfl (sizeW W hW.1) ?_)
    | (go_at_call 48; refine (hstd _).mono ?_; rintro e w2 ⟨rfl, hb2⟩; have hx3 := hx1.later hb2; have hk2 := Keeps.next hkx hb2)
    | (go_at_call 49; refine (hway _).mono ?_; rintro e w3 ⟨g1, rfl, hg1, hy4, hb3⟩))
  refine bodyPost_ret (results_tmp2 (t := 2) (u := 3) (by rfl) _ _ _) rfl ⟨_, rfl, ?_, Keeps.next hk2 hb3⟩
  have hml : (Y.map fun l => (⟨l.toArray⟩ : ByteArray)).length = shN t := by rw [List.length_map, HYl.out]
  refine ⟨some ⟨g1, 0, none⟩, shN t, congrArg (fun n => Value.slice (some ⟨g1, 0, none⟩) n (shN t)) hml.symm, by rw [hml]; unfold maxLen; omega, fun k hk => ?_⟩
  rw [hml] at hk
  have hkY : k < Y.length := by rw [HYl.out]; exact hk
  refine ⟨g1, 0, .string ⟨Y[k].toArray⟩, rfl, ?_, ?_⟩
  · rw [Nat.zero_add]
    refine (hy4.cell k).trans ?_
    rw [List.getElem?_toArray, strs, List.getElem?_map, List.getElem?_eq_getElem hkY]; rfl
  · exact ⟨⟨Y[k].toArray⟩, by rw [List.getElem?_map, List.getElem?_eq_getElem hkY]; rfl, rfl⟩
def waysR (t : List (List Int)) : List ByteArray := if gensB t then waysT t else []
theorem pways_c (v : Value) (t : List (List Int)) (w : World) (ht : RdT w v t) :
    Calls Try.prog 24 #[v] w fun e w' => ∃ u, e = .returned (.tuple #[u, .int .i64 (codeG (gensB t))]) ∧ RdS w' u (waysR t) ∧ Keeps w w' := by
  by_cases hB : windB t = true
  · by_cases hS : stdB (windW t) = true
    · have : gensB t = true := by simp [gensB, hB, hS]
      rw [waysR, this]
      exact pways_yes v t hB hS w ht
    · have hS' : stdB (windW t) = false := by simpa using hS
      have : gensB t = false := by simp [gensB, hS']
      rw [waysR, this]
      refine (pways_no2 v t hB hS' w ht).mono ?_
      rintro e w' ⟨rfl, hb⟩
      exact ⟨_, rfl, ⟨none, 0, rfl, by unfold maxLen; simp, fun k hk => by simp at hk⟩, hb⟩
  · have hB' : windB t = false := by simpa using hB
    have : gensB t = false := by simp [gensB, hB']
    rw [waysR, this]
    refine (pways_no1 v t hB' w ht).mono ?_
    rintro e w' ⟨rfl, hb⟩
    exact ⟨_, rfl, ⟨none, 0, rfl, by unfold maxLen; simp, fun k hk => by simp at hk⟩, hb⟩
end Go.Proofs.Ytikedhkibdeheaa
