/- The walk of casing.Keeps. -/
import Derived.Test.YtfaogfcbppojoaaKe
import Derived.Test.YtfaogfcbppojoaaJc
namespace Go.Proofs.Ytfaogfcbppojoaa
open Go.RowKit
set_option linter.unusedVariables false

def kpB (g : Int) (rs : List ByteArray) (T : List (List Int)) : Bool := decide ((T.length : Int) = g) && keepsB (windW T) rs

set_option maxHeartbeats 2000000 in
set_option maxRecDepth 100000 in
theorem ckeeps_yes (g : Int) (vr : Value) (rs : List ByteArray) (hz : szOk rs) (hG : groupB g rs = true) (v : Value) (T : List (List Int)) (hB : windB T = true) (w : World) (hr : RdS w vr rs) (hv : RdT w v T) :
    Calls Try.prog 21 #[.agg #[.int .i64 g, vr], v] w fun e w' => e = .returned (.tuple #[.bool (kpB g rs T), .int .i64 0]) ∧ Keeps w w' := by
  obtain ⟨hg12, d1, d5, _⟩ := windB_parts T hB
  have hW : wok (windW T) := wokd_wok (windW_okd T hB) (by omega)
  have hWl := hW.1
  have hn0 := windW_nth0 T hB
  have hn1 := windW_nth1 T hB
  have hwo := (groupB_parts _ _ hG).2.2
  have hgr := At.new w 30 #[.int .i64 g, vr]
  have hr0 := hr.below (Keeps.alloc (Below.refl _ w) (.cells #[.int .i64 g, vr] 30))
  have hwind := wind_c v T _ (hv.below (Keeps.alloc (Below.refl _ w) (.cells #[.int .i64 g, vr] 30)))
  have hig := fun x (h : RdS x vr rs) => isGroup_c g vr rs hz x h
  have hkp := fun x (h : RdS x vr rs) => keeps_c (windW T) hW (by rw [hn1]; omega) vr rs hwo x h
  rw [hB] at hwind
  rw [hG] at hig
  have Hkp := Lib.hid (show kpB g rs T = (decide ((T.length : Int) = g) && keepsB (windW T) rs) from rfl)
  generalize kpB g rs T = kb at *
  generalize windW T = W at *
  generalize keepsB W rs = kw at *
  generalize T.length = n at *
  clear hB hG hv hr hn1
  by_cases hng : (n : Int) = g
  · have hb1 : ((n : Int) == g) = true := by simp [hng]
    have Hng := Lib.hid hng
    clear hng
    go_enter Try.func21, Try.ntmps21
    go_wp2_with (
      first
      | (go_at_call 37; refine hwind.mono ?_; rintro e w1 ⟨rfl, hb1⟩)
      | (
        refine wpList_store_row rfl 73 _ _ rfl w1.heap.size (ic W) rfl rfl 73 (ic (w0 0 0)) (At.new w1 73 (ic (w0 0 0))) (sizeW _ hWl) (by rw [ic_size, ic_size, hWl]; rfl) (ic_one _) ?_
        change wpList _ _ _ _ _ ((w1.alloc (.cells (ic (w0 0 0)) 73)).setRow w1.heap.size (ic W))
        have hx1 := (At.new w1 73 (ic (w0 0 0))).row (ic W)
        have hkk : Keeps w1 ((w1.alloc (.cells (ic (w0 0 0)) 73)).setRow w1.heap.size (ic W)) := below_row (Keeps.alloc (Below.refl _ _) _) (Nat.le_refl _) _
        have hbx := hgr.later (Keeps.next hb1 hkk)
        have hrx := hr0.below (Keeps.next hb1 hkk)
        have hkx : Keeps w _ := Keeps.next (Keeps.alloc (Below.refl _ w) _) (Keeps.next hb1 hkk)
        generalize (w1.alloc (.cells (ic (w0 0 0)) 73)).setRow w1.heap.size (ic W) = X at *
        generalize w1.heap.size = gb at *
        clear hkk hb1)
      | (refine wpList_load_row rfl 30 _ rfl w.heap.size rfl 30 _ (0, 0) _ hbx Try.underlying30 rfl (sizeG _ _) ?_)
      | (go_at_call 33; refine (hig _ hrx).mono ?_; rintro e w2 ⟨rfl, hb2⟩; have hx2 := hx1.later hb2; have hbx2 := hbx.later hb2; have hrx2 := hrx.below hb2; have hk2 := Keeps.next hkx hb2; have hc0 := hx2.int 0 (by rw [hWl]; omega); have hg0 := hbx2.cell 0; have hg1 := hbx2.cell 1; rw [hn0] at hc0; clear hbx hx1 hrx)
      | (refine load_row_w rfl 73 _ rfl gb rfl 73 (ic W) (0, 0) _ hx2 Try.underlying73 rfl (sizeW W hWl) ?_)
      | (go_at_call 41; refine (hkp _ hrx2).mono ?_; rintro e w3 ⟨rfl, hb3⟩; have hk3 := Keeps.next hk2 hb3))
    refine bodyPost_ret (results_tmp2 (t := 4) (u := 5) (by rfl) _ _ _) rfl ⟨by simp [Hkp.out, Hng.out], hk3⟩
  · have hb1 : ((n : Int) == g) = false := by simpa using hng
    have Hng := Lib.hid hng
    clear hng
    go_enter Try.func21, Try.ntmps21
    go_wp2_with (
      first
      | (go_at_call 37; refine hwind.mono ?_; rintro e w1 ⟨rfl, hb1⟩)
      | (
        refine wpList_store_row rfl 73 _ _ rfl w1.heap.size (ic W) rfl rfl 73 (ic (w0 0 0)) (At.new w1 73 (ic (w0 0 0))) (sizeW _ hWl) (by rw [ic_size, ic_size, hWl]; rfl) (ic_one _) ?_
        change wpList _ _ _ _ _ ((w1.alloc (.cells (ic (w0 0 0)) 73)).setRow w1.heap.size (ic W))
        have hx1 := (At.new w1 73 (ic (w0 0 0))).row (ic W)
        have hkk : Keeps w1 ((w1.alloc (.cells (ic (w0 0 0)) 73)).setRow w1.heap.size (ic W)) := below_row (Keeps.alloc (Below.refl _ _) _) (Nat.le_refl _) _
        have hbx := hgr.later (Keeps.next hb1 hkk)
        have hrx := hr0.below (Keeps.next hb1 hkk)
        have hkx : Keeps w _ := Keeps.next (Keeps.alloc (Below.refl _ w) _) (Keeps.next hb1 hkk)
        generalize (w1.alloc (.cells (ic (w0 0 0)) 73)).setRow w1.heap.size (ic W) = X at *
        generalize w1.heap.size = gb at *
        clear hkk hb1)
      | (refine wpList_load_row rfl 30 _ rfl w.heap.size rfl 30 _ (0, 0) _ hbx Try.underlying30 rfl (sizeG _ _) ?_)
      | (go_at_call 33; refine (hig _ hrx).mono ?_; rintro e w2 ⟨rfl, hb2⟩; have hx2 := hx1.later hb2; have hbx2 := hbx.later hb2; have hrx2 := hrx.below hb2; have hk2 := Keeps.next hkx hb2; have hc0 := hx2.int 0 (by rw [hWl]; omega); have hg0 := hbx2.cell 0; have hg1 := hbx2.cell 1; rw [hn0] at hc0; clear hbx hx1 hrx))
    refine bodyPost_ret (results_tmp2 (t := 4) (u := 5) (by rfl) _ _ _) rfl ⟨by simp [Hkp.out, Hng.out], hk2⟩

set_option maxHeartbeats 2000000 in
set_option maxRecDepth 100000 in
theorem ckeeps_no (g : Int) (vr : Value) (rs : List ByteArray) (hz : szOk rs) (v : Value) (T : List (List Int)) (h : (groupB g rs && windB T) = false) (w : World) (hr : RdS w vr rs) (hv : RdT w v T) :
    Calls Try.prog 21 #[.agg #[.int .i64 g, vr], v] w fun e w' => e = .returned (.tuple #[.bool false, .int .i64 2]) ∧ Keeps w w' := by
  have hWl := windW_length T
  have hgr := At.new w 30 #[.int .i64 g, vr]
  have hr0 := hr.below (Keeps.alloc (Below.refl _ w) (.cells #[.int .i64 g, vr] 30))
  have hwind := wind_c v T _ (hv.below (Keeps.alloc (Below.refl _ w) (.cells #[.int .i64 g, vr] 30)))
  have hig := fun x (h : RdS x vr rs) => isGroup_c g vr rs hz x h
  by_cases hG : groupB g rs = true
  · have hB : windB T = false := by simpa [hG] using h
    rw [hB] at hwind
    rw [hG] at hig
    generalize windW T = W at *
    clear hB hG hv hr h
    go_enter Try.func21, Try.ntmps21
    go_wp2_with (
      first
      | (go_at_call 37; refine hwind.mono ?_; rintro e w1 ⟨rfl, hb1⟩)
      | (
        refine wpList_store_row rfl 73 _ _ rfl w1.heap.size (ic W) rfl rfl 73 (ic (w0 0 0)) (At.new w1 73 (ic (w0 0 0))) (sizeW _ hWl) (by rw [ic_size, ic_size, hWl]; rfl) (ic_one _) ?_
        change wpList _ _ _ _ _ ((w1.alloc (.cells (ic (w0 0 0)) 73)).setRow w1.heap.size (ic W))
        have hx1 := (At.new w1 73 (ic (w0 0 0))).row (ic W)
        have hkk : Keeps w1 ((w1.alloc (.cells (ic (w0 0 0)) 73)).setRow w1.heap.size (ic W)) := below_row (Keeps.alloc (Below.refl _ _) _) (Nat.le_refl _) _
        have hbx := hgr.later (Keeps.next hb1 hkk)
        have hrx := hr0.below (Keeps.next hb1 hkk)
        have hkx : Keeps w _ := Keeps.next (Keeps.alloc (Below.refl _ w) _) (Keeps.next hb1 hkk)
        generalize (w1.alloc (.cells (ic (w0 0 0)) 73)).setRow w1.heap.size (ic W) = X at *
        generalize w1.heap.size = gb at *
        clear hkk hb1)
      | (refine wpList_load_row rfl 30 _ rfl w.heap.size rfl 30 _ (0, 0) _ hbx Try.underlying30 rfl (sizeG _ _) ?_)
      | (go_at_call 33; refine (hig _ hrx).mono ?_; rintro e w2 ⟨rfl, hb2⟩; have hk2 := Keeps.next hkx hb2))
    refine bodyPost_ret (results_tmp2 (t := 4) (u := 5) (by rfl) _ _ _) rfl ⟨rfl, hk2⟩
  · have hG' : groupB g rs = false := by simpa using hG
    rw [hG'] at hig
    generalize windW T = W at *
    generalize windB T = B at *
    clear hG hG' hv hr h
    go_enter Try.func21, Try.ntmps21
    go_wp2_with (
      first
      | (go_at_call 37; refine hwind.mono ?_; rintro e w1 ⟨rfl, hb1⟩)
      | (
        refine wpList_store_row rfl 73 _ _ rfl w1.heap.size (ic W) rfl rfl 73 (ic (w0 0 0)) (At.new w1 73 (ic (w0 0 0))) (sizeW _ hWl) (by rw [ic_size, ic_size, hWl]; rfl) (ic_one _) ?_
        change wpList _ _ _ _ _ ((w1.alloc (.cells (ic (w0 0 0)) 73)).setRow w1.heap.size (ic W))
        have hx1 := (At.new w1 73 (ic (w0 0 0))).row (ic W)
        have hkk : Keeps w1 ((w1.alloc (.cells (ic (w0 0 0)) 73)).setRow w1.heap.size (ic W)) := below_row (Keeps.alloc (Below.refl _ _) _) (Nat.le_refl _) _
        have hbx := hgr.later (Keeps.next hb1 hkk)
        have hrx := hr0.below (Keeps.next hb1 hkk)
        have hkx : Keeps w _ := Keeps.next (Keeps.alloc (Below.refl _ w) _) (Keeps.next hb1 hkk)
        generalize (w1.alloc (.cells (ic (w0 0 0)) 73)).setRow w1.heap.size (ic W) = X at *
        generalize w1.heap.size = gb at *
        clear hkk hb1)
      | (refine wpList_load_row rfl 30 _ rfl w.heap.size rfl 30 _ (0, 0) _ hbx Try.underlying30 rfl (sizeG _ _) ?_)
      | (go_at_call 33; refine (hig _ hrx).mono ?_; rintro e w2 ⟨rfl, hb2⟩; have hk2 := Keeps.next hkx hb2))
    refine bodyPost_ret (results_tmp2 (t := 4) (u := 5) (by rfl) _ _ _) rfl ⟨rfl, hk2⟩
end Go.Proofs.Ytfaogfcbppojoaa
