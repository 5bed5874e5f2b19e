/- The walk of turned and Turn. -/
import Derived.Test.YtodopdfjjgpdeaaTa
import Derived.Test.YtodopdfjjgpdeaaSl
namespace Go.Proofs.Ytodopdfjjgpdeaa
open Go.RowKit Go.Shelf
set_option linter.unusedVariables false
set_option linter.unusedSimpArgs false

/-- An order after the first moves of a symmetry. -/
def tn1 (L : List Int) (s : Nat) : List Int := if s % 2 = 1 then L.reverse else L
def tn2 (L : List Int) (s : Nat) : List Int := if s / 2 % 2 = 1 then mirL (tn1 L s) else tn1 L s
def tn3 (L : List Int) (s : Nat) : List Int := if s / 4 % 2 = 1 then exL (tn2 L s) else tn2 L s
def turnK (L : List Int) (s : Nat) (k : Nat) : List Int := if k = 0 then L else if k = 1 then tn1 L s else if k = 2 then tn2 L s else tn3 L s
def inB (L : List Int) : Prop := ∀ i, i < L.length → 0 ≤ nth L i ∧ nth L i < L.length
theorem inB_rev {L : List Int} (h : inB L) : inB L.reverse := fun i hi => by
  rw [List.length_reverse] at hi ⊢
  have : nth L.reverse i = nth L (L.length - 1 - i) := by simp [nth, List.getElem?_reverse hi]
  rw [this]
  exact h _ (by omega)
theorem inB_mir {L : List Int} (h : inB L) : inB (mirL L) := fun i hi => by
  have hl : (mirL L).length = L.length := by simp [mirL]
  rw [hl] at hi ⊢
  have : nth (mirL L) i = (L.length : Int) - 1 - nth L i := by simp [mirL, nth, hi]
  rw [this]
  have := h i hi
  omega
theorem tn1_length (L : List Int) (s : Nat) : (tn1 L s).length = L.length := by unfold tn1; split <;> simp
theorem tn2_length (L : List Int) (s : Nat) : (tn2 L s).length = L.length := by unfold tn2; split <;> simp [mirL, tn1_length]
theorem tn3_length (L : List Int) (s : Nat) : (tn3 L s).length = L.length := by
  unfold tn3
  split
  · unfold exL; rw [exK_length, tn2_length]
  · exact tn2_length L s
theorem turnK_length (L : List Int) (s k : Nat) : (turnK L s k).length = L.length := by
  unfold turnK
  split
  · rfl
  split
  · exact tn1_length L s
  split
  · exact tn2_length L s
  · exact tn3_length L s
theorem tn1_in {L : List Int} (h : inB L) (s : Nat) : inB (tn1 L s) := by
  unfold tn1
  split
  · exact inB_rev h
  · exact h
theorem tn2_in {L : List Int} (h : inB L) (s : Nat) : inB (tn2 L s) := by
  unfold tn2
  split
  · exact inB_mir (tn1_in h s)
  · exact tn1_in h s
theorem bit0 (s : Nat) (hs : s < 8) : (bits BinOp.and IntKind.i64 (s : Int) 1 == 1) = decide (s % 2 = 1) := by
  have : s = 0 ∨ s = 1 ∨ s = 2 ∨ s = 3 ∨ s = 4 ∨ s = 5 ∨ s = 6 ∨ s = 7 := by omega
  rcases this with rfl | rfl | rfl | rfl | rfl | rfl | rfl | rfl <;> decide +kernel
theorem bit1 (s : Nat) (hs : s < 8) : (bits BinOp.and IntKind.i64 ((s : Int) / 2) 1 == 1) = decide (s / 2 % 2 = 1) := by
  have : s = 0 ∨ s = 1 ∨ s = 2 ∨ s = 3 ∨ s = 4 ∨ s = 5 ∨ s = 6 ∨ s = 7 := by omega
  rcases this with rfl | rfl | rfl | rfl | rfl | rfl | rfl | rfl <;> decide +kernel
theorem bit2 (s : Nat) (hs : s < 8) : (bits BinOp.and IntKind.i64 ((s : Int) / 4) 1 == 1) = decide (s / 4 % 2 = 1) := by
  have : s = 0 ∨ s = 1 ∨ s = 2 ∨ s = 3 ∨ s = 4 ∨ s = 5 ∨ s = 6 ∨ s = 7 := by omega
  rcases this with rfl | rfl | rfl | rfl | rfl | rfl | rfl | rfl <;> decide +kernel
set_option maxHeartbeats 4000000 in
set_option maxRecDepth 100000 in
theorem turned_c (v0 : Value) (L : List Int) (s : Nat) (hs : s < 8) (h1 : 1 ≤ L.length) (h16 : L.length ≤ 16) (hin : inB L) (w : World) (hv : RdI w v0 L) :
    Calls Try.prog 32 #[v0, .int .i64 s] w fun e w' => ∃ g c ex, e = .returned (.slice (some ⟨g, 0, none⟩) L.length c) ∧ At w' g 3 (rowA (tn3 L s) ex) ∧ w.heap.size ≤ g ∧ Keeps w w' := by
  have hcl := clone_o v0 L h1 (by omega) w hv
  have hmf : ∀ (fn : Fn) (first cap : Array Value) (w : World), (Instr.makeFunc fn first cap).run Try.prog w = .ok (.func fn first cap) w := fun _ _ _ _ => rfl
  clear hv
  go_enter Try.func32, Try.ntmps32
  go_upto_region 2 with (go_at_call 25; refine hcl.mono ?_; rintro e w1 ⟨g, c, ex, rfl, hc, hg, hat, hb1⟩)
  have hw1 := hb1.size
  have hgl := hat.lt
  have hbd : ∀ X, Keeps (w1.alloc (.cells #[.slice (some ⟨g, 0, none⟩) L.length c] 70)) X → Board X w1.heap.size L (fun r => r < w.heap.size ∨ r = w1.heap.size + 1) := fun X hX => ⟨g, c, ex, (At.new _ _ _).later hX, (hat.alloc _).later hX, by omega, by omega, by omega⟩
  have hk1 : Keeps w (w1.alloc (.cells #[.slice (some ⟨g, 0, none⟩) L.length c] 70)) := Keeps.alloc hb1 _
  have hYs : (w1.alloc (.cells #[.slice (some ⟨g, 0, none⟩) L.length c] 70)).heap.size = w1.heap.size + 1 := by simp
  obtain ⟨Y, hY⟩ : ∃ Y, w1.alloc (.cells #[.slice (some ⟨g, 0, none⟩) L.length c] 70) = Y := ⟨_, rfl⟩
  rw [hY] at hbd hk1 hYs
  rw [hY]
  clear hY hcl hb1 hat
  obtain ⟨bb, hbb⟩ : ∃ bb, w1.heap.size = bb := ⟨_, rfl⟩
  rw [hbb] at hbd hYs hw1 ⊢
  clear hbb hgl hg hc
  go_wp2_with fail
  obtain ⟨Z, hZ⟩ : ∃ Z, Y.alloc (.cells #[.func (.func 45) #[.pointer (some ⟨bb, 0, none⟩)] #[], .func (.func 46) #[.pointer (some ⟨bb, 0, none⟩)] #[], .func (.func 47) #[.pointer (some ⟨bb, 0, none⟩)] #[]] 1) = Z := ⟨_, rfl⟩
  have hbZ : Board Z bb L (fun r => r < w.heap.size ∨ r = bb + 1) := by rw [← hZ]; exact hbd _ (Keeps.alloc (Below.refl _ _) _)
  have hfZ : At Z (bb + 1) 1 #[.func (.func 45) #[.pointer (some ⟨bb, 0, none⟩)] #[], .func (.func 46) #[.pointer (some ⟨bb, 0, none⟩)] #[], .func (.func 47) #[.pointer (some ⟨bb, 0, none⟩)] #[]] := by rw [← hZ]; exact At.new' _ _ hYs.symm _ _
  have hkZ : Keeps w Z := by rw [← hZ]; exact Keeps.alloc hk1 _
  have hlZ := hfZ.lt
  rw [hZ]
  clear hZ hbd hk1 hYs hmf
  go_loopw [20] (fun i wr => ∃ k : Nat, k ≤ 3 ∧ i = .int .i64 k ∧ Board wr bb (turnK L s k) (fun r => r < w.heap.size ∨ r = bb + 1) ∧ Holds (fun r => r < w.heap.size ∨ r = bb + 1) Z wr) (fun i _ => 3 - (intOf i).toNat)
  case atStart => exact ⟨0, by omega, rfl, hbZ, Holds.refl _ _⟩
  case round =>
    obtain ⟨k, hk, rfl, hB, hH⟩ := hrel
    have hf := hfZ.holds hH (.inr rfl)
    have hsz := hH.size
    by_cases hlt : k < 3
    · have h012 : k = 0 ∨ k = 1 ∨ k = 2 := by omega
      rcases h012 with rfl | rfl | rfl
      · have cf := hf.cell 0
        simp only [List.getElem?_toArray, List.getElem?_cons_zero] at cf
        have hb : (bits BinOp.and IntKind.i64 (s : Int) 1 == 1) = decide (s % 2 = 1) := bit0 s hs
        by_cases hbit : s % 2 = 1
        · rw [decide_eq_true hbit] at hb
          have hrc := revCols_c bb L _ h1 h16 wr hB
          go_wp2_with (go_at_call 45; refine hrc.mono ?_; rintro e w2 ⟨rfl, hB2, hH2⟩)
          go_roundw
          case rel => exact ⟨1, by omega, rfl, by show Board _ _ (tn1 L s) _; unfold tn1; rw [if_pos hbit]; exact hB2, hH.trans hH2⟩
          case measure => simp [intOf]
        · rw [decide_eq_false hbit] at hb
          go_wp2_with fail
          go_roundw
          case rel => exact ⟨1, by omega, rfl, by show Board _ _ (tn1 L s) _; unfold tn1; rw [if_neg hbit]; exact hB, hH⟩
          case measure => simp [intOf]
      · have cf := hf.cell 1
        simp only [List.getElem?_toArray, List.getElem?_cons_zero, List.getElem?_cons_succ] at cf
        have hb : (bits BinOp.and IntKind.i64 ((s : Int) / 2) 1 == 1) = decide (s / 2 % 2 = 1) := bit1 s hs
        have hB1 : Board wr bb (tn1 L s) (fun r => r < w.heap.size ∨ r = bb + 1) := hB
        by_cases hbit : s / 2 % 2 = 1
        · rw [decide_eq_true hbit] at hb
          have hrc := revRows_c bb (tn1 L s) _ (by rw [tn1_length]; exact h16) (tn1_in hin s) wr hB1
          go_wp2_with (go_at_call 46; refine hrc.mono ?_; rintro e w2 ⟨rfl, hB2, hH2⟩)
          go_roundw
          case rel => exact ⟨2, by omega, rfl, by show Board _ _ (tn2 L s) _; unfold tn2; rw [if_pos hbit]; exact hB2, hH.trans hH2⟩
          case measure => simp [intOf]
        · rw [decide_eq_false hbit] at hb
          go_wp2_with fail
          go_roundw
          case rel => exact ⟨2, by omega, rfl, by show Board _ _ (tn2 L s) _; unfold tn2; rw [if_neg hbit]; exact hB1, hH⟩
          case measure => simp [intOf]
      · have cf := hf.cell 2
        simp only [List.getElem?_toArray, List.getElem?_cons_zero, List.getElem?_cons_succ] at cf
        have hb : (bits BinOp.and IntKind.i64 ((s : Int) / 4) 1 == 1) = decide (s / 4 % 2 = 1) := bit2 s hs
        have hB1 : Board wr bb (tn2 L s) (fun r => r < w.heap.size ∨ r = bb + 1) := hB
        by_cases hbit : s / 4 % 2 = 1
        · rw [decide_eq_true hbit] at hb
          have hrc := exch_c bb (tn2 L s) _ (by rw [tn2_length]; exact h16) (tn2_in hin s) wr (fun r h => by omega) hB1
          go_wp2_with (go_at_call 47; refine hrc.mono ?_; rintro e w2 ⟨rfl, hB2, hH2⟩)
          go_roundw
          case rel => exact ⟨3, by omega, rfl, by show Board _ _ (tn3 L s) _; unfold tn3; rw [if_pos hbit]; exact hB2, hH.trans hH2⟩
          case measure => simp [intOf]
        · rw [decide_eq_false hbit] at hb
          go_wp2_with fail
          go_roundw
          case rel => exact ⟨3, by omega, rfl, by show Board _ _ (tn3 L s) _; unfold tn3; rw [if_neg hbit]; exact hB1, hH⟩
          case measure => simp [intOf]
    · obtain rfl : k = 3 := by omega
      obtain ⟨g3, c3, ex3, z1, z2, hne, hg3, hb3⟩ := hB
      have cz := z1.cell 0
      simp only [List.getElem?_toArray, List.getElem?_cons_zero] at cz
      have hl3 : (turnK L s 3).length = L.length := turnK_length L s 3
      rw [hl3] at cz
      have Z2 := Lib.hid z2
      clear z1 z2 hl3
      go_wp2_with fail
      go_ret
      exact ⟨g3, ⟨c3, rfl⟩, ⟨ex3, Z2.out⟩, by omega, ((Holds.of_below hkZ).trans2 hH (fun r _ h => .inl h)).below (Nat.le_refl _)⟩
theorem ordB_in {L : List Int} (h : ordB L = true) : 1 ≤ L.length ∧ L.length ≤ 16 ∧ inB L := by
  obtain ⟨h1, h2, h3, -⟩ := ordB_parts L h
  exact ⟨h1, h2, fun i hi => (hasB_iff _ _).1 (List.all_eq_true.1 h3 _ (nth_mem L i hi))⟩
set_option maxHeartbeats 1000000 in
theorem turn_yes (v0 : Value) (L : List Int) (s : Nat) (hs : s < 8) (ho : ordB L = true) (w : World) (hv : RdI w v0 L) :
    Calls Try.prog 17 #[v0, .int .i64 s] w fun e w' => ∃ g c ex, e = .returned (.tuple #[.slice (some ⟨g, 0, none⟩) L.length c, .int .i64 0]) ∧ At w' g 3 (rowA (tn3 L s) ex) ∧ w.heap.size ≤ g ∧ Keeps w w' := by
  obtain ⟨h1, h16, hin⟩ := ordB_in ho
  have hio := fun x hx => isOrder_c v0 L x hx
  rw [ho] at hio
  have htc := fun x hx => turned_c v0 L s hs h1 h16 hin x hx
  have d1 : decide ((s : Int) < 0) = false := by simp
  have d2 : decide ((8 : Int) ≤ s) = false := by simp; omega
  clear ho
  go_enter Try.func17, Try.ntmps17
  go_wp2_with (first
    | (go_at_call 21; refine (hio _ hv).mono ?_; rintro e w1 ⟨rfl, hb1⟩)
    | (go_at_call 32; refine (htc _ (hv.below hb1)).mono ?_; rintro e w2 ⟨g, c, ex, rfl, hat, hg, hb2⟩))
  go_ret2
  exact ⟨g, c, ex, rfl, hat, Nat.le_trans hb1.size hg, hb1.next hb2⟩
set_option maxHeartbeats 1000000 in
theorem turn_no (v0 : Value) (L : List Int) (s : Int) (h : ordB L = false ∨ (ordB L = true ∧ (s < 0 ∨ (¬ s < 0 ∧ 8 ≤ s)))) (w : World) (hv : RdI w v0 L) :
    Calls Try.prog 17 #[v0, .int .i64 s] w fun e w' => e = .returned (.tuple #[.slice none 0 0, .int .i64 2]) ∧ Keeps w w' := by
  have hio := isOrder_c v0 L w hv
  rcases h with h | ⟨h, h2⟩
  · rw [h] at hio
    clear h
    go_enter Try.func17, Try.ntmps17
    go_wp2_with (go_at_call 21; refine hio.mono ?_; rintro e w1 ⟨rfl, hb1⟩)
    go_ret2
    exact ⟨rfl, hb1⟩
  · rw [h] at hio
    clear h
    rcases h2 with h2 | ⟨h2, h3⟩
    · go_enter Try.func17, Try.ntmps17
      go_wp2_with (go_at_call 21; refine hio.mono ?_; rintro e w1 ⟨rfl, hb1⟩)
      go_ret2
      exact ⟨rfl, hb1⟩
    · have d1 : decide (s < 0) = false := decide_eq_false h2
      clear h2
      go_enter Try.func17, Try.ntmps17
      go_wp2_with (go_at_call 21; refine hio.mono ?_; rintro e w1 ⟨rfl, hb1⟩)
      go_ret2
      exact ⟨rfl, hb1⟩
end Go.Proofs.Ytodopdfjjgpdeaa
