/- The walk of Count. -/
import Derived.Test.YtikedhkibdeheaaPu
import Derived.Test.YtikedhkibdeheaaCg
namespace Go.Proofs.Ytikedhkibdeheaa
open Go.RowKit Go.Shelf
attribute [local go_sem] Oper.semAt_some

theorem length_flatMap_le {α β : Type} (f : α → List β) (N : Nat) : ∀ (l : List α), (∀ x ∈ l, (f x).length ≤ N) → (l.flatMap f).length ≤ l.length * N
  | [], _ => by simp
  | x :: l, h => by
    have h1 := h x (by simp)
    have h2 := length_flatMap_le f N l (fun y hy => h y (by simp [hy]))
    simp only [List.flatMap_cons, List.length_append, List.length_cons, Nat.succ_mul]
    omega
theorem perms_length (d : Nat) (h1 : 1 ≤ d) (h5 : d ≤ 5) : (perms d).length ≤ 120 := by
  have : d = 1 ∨ d = 2 ∨ d = 3 ∨ d = 4 ∨ d = 5 := by omega
  rcases this with rfl | rfl | rfl | rfl | rfl <;> decide +kernel
theorem fl_length (d : Nat) (h1 : 1 ≤ d) (h5 : d ≤ 5) (rules : List ByteArray) : ∀ (fuel : Nat) (W : List Int) (gi : Nat), (fl d rules fuel W gi).length ≤ 120 ^ fuel := by
  intro fuel
  induction fuel with
  | zero => intro W gi; simp only [fl]; split <;> simp
  | succ fuel ih =>
    intro W gi
    have h := length_flatMap_le (fun c => fl d rules fuel (layS W gi c) (gi + 1)) (120 ^ fuel) (perms d) (fun c _ => ih _ _)
    show ((perms d).flatMap _).length ≤ _
    refine Nat.le_trans h ?_
    rw [Nat.pow_succ, Nat.mul_comm]
    exact Nat.mul_le_mul_left _ (perms_length d h1 h5)
theorem wins_length (g d : Nat) (hg : g = 1 ∨ g = 2) (h1 : 1 ≤ d) (h5 : d ≤ 5) (rules : List ByteArray) : (wins g d rules).length ≤ 14400 := by
  have h := fl_length d h1 h5 rules g (w0 g d) 0
  rcases hg with rfl | rfl
  · exact Nat.le_trans h (by decide)
  · exact Nat.le_trans h (by decide)

theorem fl_ok (d : Nat) (h5 : d ≤ 5) (rules : List ByteArray) : ∀ (fuel : Nat) (W : List Int) (gi : Nat), wok W → ∀ x ∈ fl d rules fuel W gi, wok x ∧ nth x 0 = nth W 0 ∧ nth x 1 = nth W 1 := by
  intro fuel
  induction fuel with
  | zero => intro W gi hW x hx; simp only [fl] at hx; split at hx <;> simp at hx; subst hx; exact ⟨hW, rfl, rfl⟩
  | succ fuel ih =>
    intro W gi hW x hx
    simp only [fl, List.mem_flatMap] at hx
    obtain ⟨c, hc, hx⟩ := hx
    have hp := perms_ok d c hc
    have := ih (layS W gi c) (gi + 1) (lay_ok W gi c hW (by omega) (hasB_5 d (by omega) c hp.2.1)) x hx
    rw [layS_nth _ _ _ _ (by omega), layS_nth _ _ _ _ (by omega)] at this
    exact this
theorem wins_ok (g d : Nat) (h5 : d ≤ 5) (rules : List ByteArray) (x : List Int) (hx : x ∈ wins g d rules) : wok x ∧ nth x 0 = g ∧ nth x 1 = d := fl_ok d h5 rules g (w0 g d) 0 (w0_ok g d) x hx

theorem sizeG (v : Value) (g : Int) : (Try.prog.info? 25).map (·.size) = some (#[Value.int .i64 g, v] : Array Value).size := by
  show _ = some 2; kernel_rfl

set_option maxHeartbeats 2000000 in
set_option maxRecDepth 100000 in
theorem count_yes (g d : Nat) (hg : g = 1 ∨ g = 2) (d1 : 1 ≤ d) (d5 : d ≤ 5) (v : Value) (rules : List ByteArray) (hz : szOk rules) (hG : groupB g rules = true) (w : World) (hv : RdS w v rules) :
    Calls Try.prog 12 #[.agg #[.int .i64 g, v], .int .i64 d] w fun e w' => e = .returned (.tuple #[.int .i64 (wins g d rules).length, .int .i64 0]) ∧ Keeps w w' := by
  have hS : sheetsB d = true := by simp [sheetsB]; omega
  have hlen := wins_length g d hg d1 d5 rules
  have hrw := (groupB_parts _ _ hG).2.2
  refine (callsIn_wide (n := 5)).1 ?_
  refine callsIn_of_wp_marks Try.func12 rfl trivial ?_ rfl
  simp only [Try.ntmps12, List.size_toArray, List.length_cons, List.length_nil, Nat.reduceAdd, Nat.reduceSub, Array.replicate_succ, Array.replicate_zero, List.push_toArray, List.append_toArray, List.nil_append, List.cons_append]
  gi_wp2_with fail
  refine ⟨trivial, (callsIn_wide.2 (isGroup_c g v rules hz _ (hv.below (Keeps.alloc (Below.refl _ w) _)))).mono ?_⟩
  rintro e w1 ⟨rfl, hb1⟩
  have hbx := (At.new w 25 #[.int .i64 g, v]).later hb1
  have hk1 : Keeps w w1 := Keeps.next (Keeps.alloc (Below.refl _ w) _) hb1
  have hlt1 := hbx.lt
  gi_wp2_with fail
  refine ⟨trivial, (callsIn_wide.2 (isSheets_c d _)).mono ?_⟩
  rintro e w2 ⟨rfl, rfl⟩
  have hbx2 := hbx.alloc (.cells #[.int .i64 0] 3)
  gi_wp2_with (refine in_load_row rfl 25 _ rfl w.heap.size rfl 25 _ _ hbx2 Try.underlying25 rfl (sizeG v g) ?_)
  refine ⟨trivial, (callsIn_wide.2 (windings_c _ d _)).mono ?_⟩
  rintro e w3 ⟨rfl, rfl⟩
  gi_wp2_with fail
  obtain ⟨Y, hY⟩ : ∃ Y, ((w1.alloc (.cells #[.int .i64 0] 3)).alloc (.cells #[.int .i64 g, v] 25)).alloc (.cells #[.int .i64 d] 3) = Y := ⟨_, rfl⟩
  have hYs : Y.heap.size = w1.heap.size + 3 := by rw [← hY]; simp
  have hcY : At Y w1.heap.size 3 #[.int .i64 0] := by rw [← hY]; exact ((At.new w1 _ _).alloc _).alloc _
  have hgY : At Y (w1.heap.size + 1) 25 #[.int .i64 g, v] := by rw [← hY]; exact (At.new2 w1 _ _ _).alloc _
  have hdY : At Y (w1.heap.size + 1 + 1) 3 #[.int .i64 d] := by rw [← hY]; exact At.new' _ _ (by simp) _ _
  have hkY : Keeps w Y := by rw [← hY]; exact Keeps.alloc (Keeps.alloc (Keeps.alloc hk1 _) _) _
  rw [hY]
  clear hY hbx hbx2
  refine range_mine (wins g d rules) (gf := 61) (lb := #[.pointer (some ⟨w1.heap.size + 1, 0, none⟩), .pointer (some ⟨w1.heap.size + 1 + 1, 0, none⟩)]) rfl (enters_of Try.func61 (by kernel_rfl) rfl)
    (wins_iter g d hg d1 d5 rules hrw (w1.heap.size + 1) (w1.heap.size + 1 + 1) v (fun r => r < w.heap.size ∨ r = w1.heap.size + 1 ∨ r = w1.heap.size + 1 + 1) (.inr (.inl rfl)) (.inr (.inr rfl)) Y (fun r h => by omega) hgY hdY
      (fun X' hh => hv.below (((Holds.of_below hkY).trans2 hh (fun r _ h => .inl h)).below (Nat.le_refl _))))
    (fun _ _ => rfl) (fun r h => by omega) (fun _ _ _ _ _ _ => trivial)
    (fun k _ Z => At Z w1.heap.size 3 #[.int .i64 k] ∧ Below w.heap.size w Z) (fun _ _ _ => False)
    (fun k M Z Z' h hh => ⟨h.1.holds hh (.inl (by omega)), ((Holds.of_below h.2).trans2 hh (fun r _ h => .inl (by omega))).below (Nat.le_refl _)⟩) (fun _ _ _ _ h _ => h) ⟨hcY, hkY⟩
    (fun x a' _ => a' = { tmps := #[.agg #[.int .i64 g, v], .int .i64 d, .pointer (some ⟨w.heap.size, 0, none⟩), undef, .int .i64 0, .int .i64 0, .pointer (some ⟨w1.heap.size, 0, none⟩), .agg #[.int .i64 g, v], .bool true, .bool false, .bool false, .int .i64 d, .bool true, .bool false, .bool false,
      .agg #[.int .i64 g, v], .int .i64 d, .func (.func 61) #[] #[.pointer (some ⟨w1.heap.size + 1, 0, none⟩), .pointer (some ⟨w1.heap.size + 1 + 1, 0, none⟩)], .agg (ic x), undef, undef, undef], defers := [] })
    (fun _ _ _ _ _ h => h) ?assign ?body ?done ?stop
  case assign =>
    intro l' j x M1 Z _ _ _ _
    have HYs := Lib.hid hYs
    clear hYs
    gi_wp2
    exact ⟨Holds.refl _ _, by simp⟩
  case body =>
    rintro l' j x M1 a' Z hx ⟨hc, hbel⟩ hM1 hKin _ rfl hsz
    have hj := (List.getElem?_eq_some_iff.1 hx).1
    have cc := hc.cell 0
    have fc := hc.frozen 0
    simp only [List.getElem?_toArray, List.getElem?_cons_zero] at cc
    have HYs := Lib.hid hYs
    clear hYs hx
    gi_wp2
    have hYs := HYs.out
    refine ⟨M1, fun r hr => Nat.lt_of_lt_of_le (hM1 r hr).2 (by simp [World.setCell]), fun r h => .inl h, (Holds.refl _ Z).set _ (by simp; omega) _, ?_, hbel.setCell (by simp; omega) _⟩
    have := hc.set 0 (.int .i64 (j + 1))
    exact this
  case done =>
    rintro M1 Z ⟨hc, hbel⟩ hK hM1
    have cc := hc.cell 0
    simp only [List.getElem?_toArray, List.getElem?_cons_zero] at cc
    have HYs := Lib.hid hYs
    have HK := Lib.hid hK
    clear hYs hK
    gi_wp2
    have hYs := HYs.out
    refine ⟨by simp, .inl ⟨_, _, rfl, run_takeDeferred HK.out, ?_⟩⟩
    exact ⟨_, results_tmp2 Try.results12 _ _ _, rfl, ((Holds.of_below hbel).put _ (by have := hk1.size; omega) _).below (Nat.le_refl _)⟩
  case stop =>
    rintro j M1 Z h _ _
    exact h.elim

def goodB (g d : Int) (rules : List ByteArray) : Bool := groupB g rules && sheetsB d
def countN (g d : Int) (rules : List ByteArray) : Int := if goodB g d rules = true then (wins g.toNat d.toNat rules).length else 0
def codeN (b : Bool) : Int := if b then 0 else 2

set_option maxHeartbeats 2000000 in
theorem count_no (g d : Int) (v : Value) (rules : List ByteArray) (hz : szOk rules) (hG : goodB g d rules = false) (w : World) (hv : RdS w v rules) :
    Calls Try.prog 12 #[.agg #[.int .i64 g, v], .int .i64 d] w fun e w' => e = .returned (.tuple #[.int .i64 0, .int .i64 2]) ∧ Keeps w w' := by
  have hvb := fun o => hv.below (Keeps.alloc (Below.refl _ w) o)
  by_cases hg : groupB g rules = true
  · have hs : sheetsB d = false := by simpa [goodB, hg] using hG
    go_enter Try.func12, Try.ntmps12
    go_wp2_with (first | (go_at_call 35; refine (isGroup_c g v rules hz _ (hvb _)).mono ?_; rintro e w1 ⟨rfl, hb1⟩) | (go_at_call 36; refine (isSheets_c d _).mono ?_; rintro e w2 ⟨rfl, rfl⟩))
    go_ret2
    exact ⟨rfl, Keeps.next (Keeps.alloc (Below.refl _ w) _) hb1⟩
  · have hg' : groupB g rules = false := by simpa using hg
    go_enter Try.func12, Try.ntmps12
    go_wp2_with (first | (go_at_call 35; refine (isGroup_c g v rules hz _ (hvb _)).mono ?_; rintro e w1 ⟨rfl, hb1⟩))
    go_ret2
    exact ⟨rfl, Keeps.next (Keeps.alloc (Below.refl _ w) _) hb1⟩
theorem count_c (g d : Int) (v : Value) (rules : List ByteArray) (hz : szOk rules) (w : World) (hv : RdS w v rules) :
    Calls Try.prog 12 #[.agg #[.int .i64 g, v], .int .i64 d] w fun e w' => e = .returned (.tuple #[.int .i64 (countN g d rules), .int .i64 (codeN (goodB g d rules))]) ∧ Keeps w w' := by
  by_cases hG : goodB g d rules = true
  · have hg : groupB g rules = true := by simp [goodB] at hG; exact hG.1
    have hs : sheetsB d = true := by simp [goodB] at hG; exact hG.2
    have hgp := (groupB_parts _ _ hg).1
    have hsp : 1 ≤ d ∧ d ≤ 5 := by simpa [sheetsB] using hs
    have h := count_yes g.toNat d.toNat (by omega) (by omega) (by omega) v rules hz (by rw [Int.toNat_of_nonneg (by omega)]; exact hg) w hv
    rw [Int.toNat_of_nonneg (by omega), Int.toNat_of_nonneg (by omega)] at h
    refine h.mono ?_
    rintro e w' ⟨rfl, hb⟩
    exact ⟨by simp [countN, codeN, hG], hb⟩
  · have hG' : goodB g d rules = false := by simpa using hG
    refine (count_no g d v rules hz hG' w hv).mono ?_
    rintro e w' ⟨rfl, hb⟩
    exact ⟨by simp [countN, codeN, hG'], hb⟩
end Go.Proofs.Ytikedhkibdeheaa
