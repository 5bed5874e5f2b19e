/- The walk of plainText. -/
import Derived.Test.YtfekggmdhmkemaaDoorGn
import Derived.Test.YtfekggmdhmkemaaDoorGj
namespace Go.Proofs.YtfekggmdhmkemaaDoor
open Go.RowKit Go.Shelf
set_option linter.unusedVariables false
set_option linter.unusedSimpArgs false
attribute [local go_sem] Oper.semAt_some

theorem prJ_mem (x : Int × Int) (j : Nat) (hj : j ≤ 80) : ∀ e ∈ (prJ x j).2, ∃ m : Nat, m < 80 ∧ e = 39 - (m : Int) := by
  induction j with
  | zero => intro e h; simp [prJ] at h
  | succ j ih =>
    intro e h
    rw [prJ_succ x j (by omega), prS] at h
    split at h
    · exact ih (by omega) e h
    · rcases List.mem_append.1 h with h | h
      · exact ih (by omega) e h
      · exact ⟨j, by omega, by simpa using h⟩
/-- The digits of a plain text. -/
def z48 : List UInt8 := List.replicate 80 48
def plJ (x : Int × Int) (j : Nat) : List UInt8 := ((partsL x).take j).foldl (fun l e => l.set (39 - e).toNat 49) z48
def plainL (x : Int × Int) : List UInt8 := plJ x (partsL x).length
def textG (x : Int × Int) : List UInt8 := txtL (plainL x)
theorem plJ_succ (x : Int × Int) (j : Nat) (m : Nat) (h : (partsL x)[j]? = some (39 - (m : Int))) : plJ x (j + 1) = (plJ x j).set m 49 := by
  obtain ⟨hj, he⟩ := List.getElem?_eq_some_iff.1 h
  unfold plJ
  rw [List.take_succ_eq_append_getElem hj, List.foldl_append, he]
  simp only [List.foldl_cons, List.foldl_nil]
  rw [show (39 - (39 - (m : Int))).toNat = m by omega]
theorem plJ_length (x : Int × Int) (j : Nat) : (plJ x j).length = 80 := by
  unfold plJ
  generalize (partsL x).take j = l
  have : ∀ (l : List Int) (a : List UInt8), a.length = 80 → (l.foldl (fun l e => l.set (39 - e).toNat 49) a).length = 80 := by
    intro l
    induction l with
    | nil => intro a h; exact h
    | cons e l ih => intro a h; exact ih _ (by simpa using h)
  exact this l z48 (by simp [z48])
theorem plJ_ok (x : Int × Int) (j : Nat) : ∀ c ∈ plJ x j, okD c := by
  unfold plJ
  generalize (partsL x).take j = l
  have : ∀ (l : List Int) (a : List UInt8), (∀ c ∈ a, okD c) → ∀ c ∈ l.foldl (fun l e => l.set (39 - e).toNat 49) a, okD c := by
    intro l
    induction l with
    | nil => intro a h; exact h
    | cons e l ih =>
      intro a h
      refine ih _ (fun c hc => ?_)
      rcases List.mem_or_eq_of_mem_set hc with hc | rfl
      · exact h c hc
      · exact .inr (.inl rfl)
  exact this l z48 (fun c hc => by rw [z48, List.mem_replicate] at hc; exact .inl hc.2)
theorem dB_set (l : List UInt8) (i : Nat) (c : UInt8) : (dB l).setIfInBounds i (.int .u8 (c.toNat : Int)) = dB (l.set i c) := by
  simp [dB, bytes, List.map_set]
set_option maxHeartbeats 4000000 in
set_option maxRecDepth 100000 in
theorem plainText_c (x : Int × Int) (hx : sm2 1000000 x) (w : World) :
    Calls Tryd.prog 24 #[.agg (gv x)] w fun e w' => e = .returned (.string ⟨(textG x).toArray⟩) ∧ Keeps w w' := by
  have hnd : ∀ y, Calls Tryd.prog 37 #[.string ⟨#[]⟩, .string ⟨#[]⟩] y fun e w' => e = .returned (.agg (dB z48)) ∧ Keeps y w' := fun y => newDigits_c ⟨#[]⟩ ⟨#[]⟩ (by decide) (by decide) y
  have hpa := fun y => parts_c x y
  have hz : Tryd.zeroCells44 = dB (List.replicate 80 0) := by kernel_rfl
  have hzl : (z48 : List UInt8).length = 80 := by simp [z48]
  have Hzl := Lib.hid hzl
  have Hz := Lib.hid hz
  clear hz hzl
  have hX0 := At.new w 24 (gv x)
  refine (callsIn_wide (n := 5)).1 ?_
  refine callsIn_of_wp_marks Tryd.func24 rfl trivial ?_ rfl
  simp only [Tryd.ntmps24, List.size_toArray, List.length_cons, List.length_nil, Nat.reduceAdd, Nat.reduceSub, Array.replicate_succ, Array.replicate_zero, List.push_toArray, List.append_toArray, List.nil_append, List.cons_append]
  rw [show (Value.agg (gv x)) = .agg #[.int .i64 x.1, .int .i64 x.2] from rfl]
  gi_wp2_with fail
  refine ⟨trivial, (callsIn_wide.2 (hnd _)).mono ?_⟩
  rintro e w1 ⟨rfl, hk1⟩
  have hx1 := hX0.later hk1
  have hg1 : At (w1.alloc (.cells Tryd.zeroCells44 44)) w1.heap.size 44 (dB (List.replicate 80 0)) := by rw [← Hz.out]; exact At.new w1 _ _
  have hx2 := (hx1.alloc (.cells Tryd.zeroCells44 44)).rowfar (by have := hx1.lt; omega) (dB z48) (g' := w1.heap.size)
  gi_wp2_with (first
    | refine in_store_row rfl 44 _ _ rfl w1.heap.size (dB z48) rfl rfl 44 _ hg1 (sizeD _ Hzl.out) (by rw [dB_size, dB_size, Hzl.out]; simp) (oneD _) ?_
    | refine in_load_row rfl 24 _ rfl w.heap.size rfl 24 (gv x) _ hx2 Tryd.underlying24 rfl (sizeV _) ?_)
  refine ⟨trivial, (callsIn_wide.2 (hpa _)).mono ?_⟩
  rintro e w2 ⟨rfl, rfl⟩
  gi_wp2_with fail
  obtain ⟨Y, hY⟩ : ∃ Y, (((w1.alloc (.cells Tryd.zeroCells44 44)).setRow w1.heap.size (dB z48)).alloc (.cells (gv x) 24)) = Y := ⟨_, rfl⟩
  have hYs : Y.heap.size = w1.heap.size + 2 := by rw [← hY]; simp
  have hgY : At Y w1.heap.size 44 (dB z48) := by rw [← hY]; exact (hg1.row (dB z48)).alloc _
  have hbY : At Y (w1.heap.size + 1) 24 (gv x) := by rw [← hY]; exact At.new' _ _ (by simp) _ _
  have hk0 : Keeps w w1 := Keeps.next (Keeps.alloc (Below.refl _ _) _) hk1
  have hkY : Keeps w Y := by rw [← hY]; exact Keeps.alloc (below_row (Keeps.alloc hk0 _) hk0.size _) _
  have hw1 := hk0.size
  rw [hY]
  clear hY hg1 hx2 hx1 hX0 hnd hpa hk1 hk0
  refine range_mine (partsL x) (gf := 57) (lb := #[.pointer (some ⟨w1.heap.size + 1, 0, none⟩)]) rfl (enters_of Tryd.func57 (by kernel_rfl) rfl)
    (parts_iter x hx (w1.heap.size + 1) (fun r => r = w1.heap.size + 1) rfl Y (fun r h => by omega) hbY)
    (fun _ _ => rfl) (fun r h => by omega) (fun _ _ _ _ _ _ => trivial)
    (fun j M Z => At Z w1.heap.size 44 (dB (plJ x j)) ∧ Below w.heap.size w Z) (fun _ _ _ => False)
    (fun j M Z Z' h hh => ⟨h.1.holds hh (.inl (by omega)), ((Holds.of_below h.2).trans2 hh (fun r _ h => .inl (by omega))).below (Nat.le_refl _)⟩) (fun _ _ _ _ h _ => h) ⟨hgY, hkY⟩
    (fun e a' Z => a' = { tmps := #[.agg #[.int .i64 x.1, .int .i64 x.2], .pointer (some ⟨w.heap.size, 0, none⟩), .string { data := #[] }, .pointer (some ⟨w1.heap.size, 0, none⟩), .int .i64 e, .agg (dB z48), .agg (gv x), .func (.func 57) #[] #[.pointer (some ⟨w1.heap.size + 1, 0, none⟩)], .int .i64 e, .agg (gv (pw e)), undef, undef, undef, undef, undef], defers := [] })
    (fun e a Z Z' hh h => h) ?assign ?body ?done ?stop
  case assign =>
    intro l' j e M1 Z _ _ _ hsz
    have HYs := Lib.hid hYs
    clear hYs
    simp only [encP]
    gi_wp2_with fail
    exact ⟨Holds.refl _ _, by simp⟩
  case body =>
    rintro l' j e M1 a' Z hxe ⟨hg, hbel⟩ hM1 hKin _ rfl hsz
    obtain ⟨m, hm, rfl⟩ := prJ_mem x 80 (Nat.le_refl _) e (List.mem_of_getElem? hxe)
    have hsc := plJ_succ x j m hxe
    have hpl := fun y => place_c (39 - m) (by omega) (by omega) y
    rw [show 39 - (39 - (m : Int)) = m by omega] at hpl
    have hlen := plJ_length x j
    have fg := hg.frozen m
    have cg : Z.cell? ⟨w1.heap.size, m, none⟩ = some (.int .u8 (((plJ x j)[m]?.getD 0).toNat : Int)) := by
      rw [hg.cell]; simp [dB, bytes, List.getElem?_eq_getElem (show m < (plJ x j).length by omega)]
    have hm80 : (m : Int) < 80 := by omega
    have hg0 := hg.lt
    have Hsc := Lib.hid hsc
    have Hlen := Lib.hid hlen
    have HYs := Lib.hid hYs
    have hYw : w1.heap.size + 2 ≤ Y.heap.size := by omega
    clear hYs hxe hsc hlen
    gi_wp2_with fail
    refine ⟨trivial, ((callsIn_wide.2 (hpl _)).inRound l').mono ?_⟩
    rintro e w5 ⟨rfl, rfl⟩
    gi_wp2_with fail
    refine ⟨M1, fun r hr => Nat.lt_of_lt_of_le (hM1 r hr).2 (by simp [World.setCell]), fun r h => .inl h, (Holds.refl _ Z).set _ (by simp; omega) _, ?_, hbel.setCell (by simp; omega) _⟩
    rw [Hsc.out, ← dB_set]
    exact hg.set m _
  case done =>
    rintro M1 Z ⟨hg, hbel⟩ hK' hM1
    have htx := fun y => text_c (plainL x) (plJ_length x _) (plJ_ok x _ _ (by
      have hl := plJ_length x (partsL x).length
      show (plainL x)[39]?.getD 0 ∈ plainL x
      unfold plainL
      rw [List.getElem?_eq_getElem (show 39 < (plJ x (partsL x).length).length by omega)]
      exact List.getElem_mem _)) y
    rw [show plJ x (partsL x).length = plainL x from rfl] at hg
    have hlp : (plainL x).length = 80 := plJ_length x _
    have Hlp := Lib.hid hlp
    have HYs := Lib.hid hYs
    have HK := Lib.hid hK'
    clear hYs hK' hlp
    gi_wp2_with (first
      | refine in_load_row rfl 44 _ rfl w1.heap.size rfl 44 _ _ hg Tryd.underlying44 rfl (sizeD _ Hlp.out) ?_)
    refine ⟨trivial, (callsIn_wide.2 (htx _)).mono ?_⟩
    rintro e w6 ⟨rfl, hk6⟩
    gi_wp2_with fail
    have hYs := HYs.out
    have hK2 := (hk6.block _ (Array.getElem?_eq_some_iff.1 HK.out).1).trans HK.out
    refine leaves_marks [Y.heap.size] _ (by simp) (fun D h => ?_) (fun W' hh => ⟨.string ⟨(textG x).toArray⟩, ?_, rfl, ?_⟩)
    · obtain rfl : D = Y.heap.size := by simpa using h
      exact hK2
    · exact results_tmp Tryd.results24 _ _ _
    · exact ((Holds.of_below (hbel.trans (hk6.mono hbel.size))).trans2 hh (fun r _ h hr => by
        have : r = Y.heap.size := by simpa using hr
        omega)).below (Nat.le_refl _)
  case stop =>
    rintro j M1 Z h _ _
    exact h.elim
end Go.Proofs.YtfekggmdhmkemaaDoor
