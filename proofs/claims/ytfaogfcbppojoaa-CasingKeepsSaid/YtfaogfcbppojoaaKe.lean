/- The walk of casing.Send, and the law of Send. -/
import Derived.Test.YtfaogfcbppojoaaKd
import Derived.Test.YtfaogfcbppojoaaKb
import Derived.Test.YtfaogfcbppojoaaHd
import Derived.Test.YtfaogfcbppojoaaGx
namespace Go.Proofs.Ytfaogfcbppojoaa
open Go.RowKit
set_option linter.unusedVariables false

def sendB (t : List (List Int)) (s : Int) (b : ByteArray) : Bool := windB t && (hasB (shN t) s && wordB t.length b.data.toList)

set_option maxHeartbeats 2000000 in
set_option maxRecDepth 100000 in
theorem csend_yes (v : Value) (t : List (List Int)) (hB : windB t = true) (s : Int) (hs : hasB (shN t) s = true) (b : ByteArray) (hm : b.size ≤ maxLen) (hb : wordB t.length b.data.toList = true) (w : World) (hv : RdT w v t) :
    Calls Try.prog 18 #[v, .int .i64 s, .string b] w fun e w' => e = .returned (.tuple #[.int .i64 (snd (windW t) s b.data.toList), .int .i64 0]) ∧ Keeps w w' := by
  obtain ⟨hg12, d1, d5, _⟩ := windB_parts t hB
  have hWd := windW_okd t hB
  have hW : wok (windW t) := wokd_wok hWd (by omega)
  have hWl := hW.1
  have hgt : (t.length : Int) = 1 ∨ (t.length : Int) = 2 := by omega
  obtain ⟨s0, s1⟩ := (hasB_iff _ _).1 hs
  have hli : ∀ c ∈ b.data.toList, 0 ≤ li c := fun c hc => by
    simp only [wordB, Bool.and_eq_true] at hb
    exact okL_li _ c (List.all_eq_true.1 hb.2 c hc)
  have hwind := wind_c v t w hv
  have hhas := fun x => has_c (windW t) hWl s x
  have hword := fun x => isWord_c t.length hgt b x hm
  have hsend := fun x => send_c (windW t) hW s ⟨s0, by omega⟩ b hm hli x
  rw [hB] at hwind
  rw [windW_nth1 t hB, hs] at hhas
  rw [hb] at hword
  have hn0 := windW_nth0 t hB
  generalize windW t = W at *
  obtain ⟨g, hg⟩ : ∃ g, g = t.length := ⟨_, rfl⟩
  rw [← hg] at *
  clear hli hb hs hB hWd hv hg
  go_enter Try.func18, Try.ntmps18
  go_wp2_with (
    first
    | (go_at_call 37; refine hwind.mono ?_; rintro e w1 ⟨rfl, hb1⟩)
    | (
      refine wpList_store_row rfl 73 _ _ rfl w1.heap.size (ic W) rfl rfl 73 (ic (w0 0 0)) (At.new w1 73 (ic (w0 0 0))) (sizeW _ hWl) (by rw [ic_size, ic_size, hWl]; rfl) (ic_one _) ?_
      change wpList _ _ _ _ _ ((w1.alloc (.cells (ic (w0 0 0)) 73)).setRow w1.heap.size (ic W))
      have hx1 := (At.new w1 73 (ic (w0 0 0))).row (ic W)
      have hkx : Keeps w ((w1.alloc (.cells (ic (w0 0 0)) 73)).setRow w1.heap.size (ic W)) := below_row (Keeps.alloc hb1 _) hb1.size _
      have hcx0 := hx1.int 0 (by rw [hWl]; omega)
      generalize (w1.alloc (.cells (ic (w0 0 0)) 73)).setRow w1.heap.size (ic W) = X at *
      generalize w1.heap.size = gb at *)
    | (refine load_row_w rfl 73 _ rfl gb rfl 73 (ic W) (0, 0) _ hx1 Try.underlying73 rfl (sizeW W hWl) ?_)
    | (go_at_call 38; refine (hhas _).mono ?_; rintro e w2 ⟨rfl, hb2⟩; have hx2 := hx1.later hb2; have hk2 := Keeps.next hkx hb2; have hc2 := hx2.int 0 (by rw [hWl]; omega); rw [hn0] at hc2)
    | (go_at_call 24; refine (hword _).mono ?_; rintro e w3 ⟨rfl, hb3⟩; have hx3 := hx2.later hb3; have hk3 := Keeps.next hk2 hb3; clear hc2)
    | (refine wpList_load_row rfl 73 _ rfl gb rfl 73 (ic W) (0, 0) _ hx3 Try.underlying73 rfl (sizeW W hWl) ?_)
    | (go_at_call 39; refine (hsend _).mono ?_; rintro e w4 ⟨rfl, hb4⟩; have hk4 := Keeps.next hk3 hb4))
  refine bodyPost_ret (results_tmp2 (t := 6) (u := 7) (by rfl) _ _ _) rfl ⟨rfl, hk4⟩

set_option maxHeartbeats 2000000 in
set_option maxRecDepth 100000 in
theorem csend_no (v : Value) (t : List (List Int)) (s : Int) (b : ByteArray) (hm : b.size ≤ maxLen) (h : sendB t s b = false) (w : World) (hv : RdT w v t) :
    Calls Try.prog 18 #[v, .int .i64 s, .string b] w fun e w' => e = .returned (.tuple #[.int .i64 0, .int .i64 2]) ∧ Keeps w w' := by
  have hWl := windW_length t
  have hwind := wind_c v t w hv
  by_cases hB : windB t = true
  · have hhas := fun x => has_c (windW t) hWl s x
    rw [windW_nth1 t hB] at hhas
    have hn0 := windW_nth0 t hB
    have hgt : (t.length : Int) = 1 ∨ (t.length : Int) = 2 := by have := (windB_parts t hB).1; omega
    have hword := fun x => isWord_c t.length hgt b x hm
    rw [hB] at hwind
    by_cases hs : hasB (shN t) s = true
    · have hb : wordB t.length b.data.toList = false := by simpa [sendB, hB, hs] using h
      rw [hs] at hhas
      rw [hb] at hword
      generalize windW t = W at *
      obtain ⟨g, hg⟩ : ∃ g, g = t.length := ⟨_, rfl⟩
      rw [← hg] at *
      clear hb hs hB hv hg h
      go_enter Try.func18, Try.ntmps18
      go_wp2_with (
        first
        | (go_at_call 37; refine hwind.mono ?_; rintro e w1 ⟨rfl, hb1⟩)
        | (
          refine wpList_store_row rfl 73 _ _ rfl w1.heap.size (ic W) rfl rfl 73 (ic (w0 0 0)) (At.new w1 73 (ic (w0 0 0))) (sizeW _ hWl) (by rw [ic_size, ic_size, hWl]; rfl) (ic_one _) ?_
          change wpList _ _ _ _ _ ((w1.alloc (.cells (ic (w0 0 0)) 73)).setRow w1.heap.size (ic W))
          have hx1 := (At.new w1 73 (ic (w0 0 0))).row (ic W)
          have hkx : Keeps w ((w1.alloc (.cells (ic (w0 0 0)) 73)).setRow w1.heap.size (ic W)) := below_row (Keeps.alloc hb1 _) hb1.size _
          have hcx0 := hx1.int 0 (by rw [hWl]; omega)
          generalize (w1.alloc (.cells (ic (w0 0 0)) 73)).setRow w1.heap.size (ic W) = X at *
          generalize w1.heap.size = gb at *)
        | (refine load_row_w rfl 73 _ rfl gb rfl 73 (ic W) (0, 0) _ hx1 Try.underlying73 rfl (sizeW W hWl) ?_)
        | (go_at_call 38; refine (hhas _).mono ?_; rintro e w2 ⟨rfl, hb2⟩; have hx2 := hx1.later hb2; have hk2 := Keeps.next hkx hb2; have hc2 := hx2.int 0 (by rw [hWl]; omega); rw [hn0] at hc2)
        | (go_at_call 24; refine (hword _).mono ?_; rintro e w3 ⟨rfl, hb3⟩; have hk3 := Keeps.next hk2 hb3; clear hc2))
      refine bodyPost_ret (results_tmp2 (t := 6) (u := 7) (by rfl) _ _ _) rfl ⟨rfl, hk3⟩
    · have hs' : hasB (shN t) s = false := by simpa using hs
      rw [hs'] at hhas
      generalize windW t = W at *
      clear hs hs' hB hv h hword hn0
      go_enter Try.func18, Try.ntmps18
      go_wp2_with (
        first
        | (go_at_call 37; refine hwind.mono ?_; rintro e w1 ⟨rfl, hb1⟩)
        | (
          refine wpList_store_row rfl 73 _ _ rfl w1.heap.size (ic W) rfl rfl 73 (ic (w0 0 0)) (At.new w1 73 (ic (w0 0 0))) (sizeW _ hWl) (by rw [ic_size, ic_size, hWl]; rfl) (ic_one _) ?_
          change wpList _ _ _ _ _ ((w1.alloc (.cells (ic (w0 0 0)) 73)).setRow w1.heap.size (ic W))
          have hx1 := (At.new w1 73 (ic (w0 0 0))).row (ic W)
          have hkx : Keeps w ((w1.alloc (.cells (ic (w0 0 0)) 73)).setRow w1.heap.size (ic W)) := below_row (Keeps.alloc hb1 _) hb1.size _
          have hcx0 := hx1.int 0 (by rw [hWl]; omega)
          generalize (w1.alloc (.cells (ic (w0 0 0)) 73)).setRow w1.heap.size (ic W) = X at *
          generalize w1.heap.size = gb at *)
        | (refine load_row_w rfl 73 _ rfl gb rfl 73 (ic W) (0, 0) _ hx1 Try.underlying73 rfl (sizeW W hWl) ?_)
        | (go_at_call 38; refine (hhas _).mono ?_; rintro e w2 ⟨rfl, hb2⟩; have hk2 := Keeps.next hkx hb2))
      refine bodyPost_ret (results_tmp2 (t := 6) (u := 7) (by rfl) _ _ _) rfl ⟨rfl, hk2⟩
  · have hB' : windB t = false := by simpa using hB
    rw [hB'] at hwind
    generalize windW t = W at *
    clear hB hB' hv h
    go_enter Try.func18, Try.ntmps18
    go_wp2_with (
      first
      | (go_at_call 37; refine hwind.mono ?_; rintro e w1 ⟨rfl, hb1⟩)
      | (
        refine wpList_store_row rfl 73 _ _ rfl w1.heap.size (ic W) rfl rfl 73 (ic (w0 0 0)) (At.new w1 73 (ic (w0 0 0))) (sizeW _ hWl) (by rw [ic_size, ic_size, hWl]; rfl) (ic_one _) ?_
        change wpList _ _ _ _ _ ((w1.alloc (.cells (ic (w0 0 0)) 73)).setRow w1.heap.size (ic W))
        have hx1 := (At.new w1 73 (ic (w0 0 0))).row (ic W)
        have hkx : Keeps w ((w1.alloc (.cells (ic (w0 0 0)) 73)).setRow w1.heap.size (ic W)) := below_row (Keeps.alloc hb1 _) hb1.size _
        have hcx0 := hx1.int 0 (by rw [hWl]; omega)
        generalize (w1.alloc (.cells (ic (w0 0 0)) 73)).setRow w1.heap.size (ic W) = X at *
        generalize w1.heap.size = gb at *)
      | fail)
    refine bodyPost_ret (results_tmp2 (t := 6) (u := 7) (by rfl) _ _ _) rfl ⟨rfl, hkx⟩
end Go.Proofs.Ytfaogfcbppojoaa
