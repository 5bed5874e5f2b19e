/- The walks of slices.Reverse and of the board's moves. -/
import Derived.Test.YtodopdfjjgpdeaaRe
import Derived.Test.YtodopdfjjgpdeaaLi
import Derived.RegionTactic
import Derived.BigRegion
import Derived.Deep.Cut
namespace Go.Proofs.Ytodopdfjjgpdeaa
open Go.RowKit Go.Shelf
set_option linter.unusedVariables false
set_option linter.unusedSimpArgs false

/-- A row of ints with room behind it. -/
def rowA (L : List Int) (ex : List Value) : Array Value := (L.map (Value.int .i64) ++ ex).toArray
theorem rowA_set (L : List Int) (ex : List Value) (k : Nat) (x : Int) (h : k < L.length) : (rowA L ex).setIfInBounds k (.int .i64 x) = rowA (L.set k x) ex := by
  unfold rowA
  rw [List.setIfInBounds_toArray, List.set_append_left _ _ (by simpa using h), List.map_set]
theorem rowA_at (L : List Int) (ex : List Value) (k : Nat) (h : k < L.length) : (rowA L ex)[k]? = some (.int .i64 (nth L k)) := by
  unfold rowA
  rw [List.getElem?_toArray, List.getElem?_append_left (by simpa using h)]
  simp [nth, h]
theorem At.rowA_cell {w : World} {g : Nat} {L : List Int} {ex : List Value} (h : At w g 3 (rowA L ex)) (k : Nat) (hk : k < L.length) : w.cell? ⟨g, k, none⟩ = some (.int .i64 (nth L k)) := by
  rw [h.cell, rowA_at L ex k hk]
theorem At.rowA_set {w : World} {g : Nat} {L : List Int} {ex : List Value} (h : At w g 3 (rowA L ex)) (k : Nat) (x : Int) (hk : k < L.length) : At (w.setCell ⟨g, k, none⟩ (.int .i64 x)) g 3 (rowA (L.set k x) ex) := by
  have := h.set k (.int .i64 x)
  rwa [Go.Proofs.Ytodopdfjjgpdeaa.rowA_set L ex k x hk] at this
theorem At.rowA_rd {w : World} {g : Nat} {L : List Int} {ex : List Value} (h : At w g 3 (rowA L ex)) (c : Nat) (hl : L.length ≤ 1000) : RdI w (.slice (some ⟨g, 0, none⟩) L.length c) L :=
  ⟨some ⟨g, 0, none⟩, c, rfl, by unfold maxLen; omega, fun k hk => ⟨g, 0, _, rfl, by rw [Nat.zero_add]; exact h.rowA_cell k hk, rfl⟩⟩
theorem own_rowA {w : World} {base : Nat} {v : Value} {L : List Int} (h : w.ownsRow base 3 1 v L.length (L.map (Value.int .i64))) (h1 : 1 ≤ L.length) :
    ∃ g c ex, v = .slice (some ⟨g, 0, none⟩) L.length c ∧ base ≤ g ∧ L.length ≤ c ∧ At w g 3 (rowA L ex) := by
  rcases h.2 with ⟨_, h0⟩ | ⟨g, cap, cur, rfl, hb, hg, hc, hm, hs, ht⟩
  · omega
  · refine ⟨g, cap, cur.toList.drop (L.length * 1), rfl, hb, hc, ?_⟩
    unfold At rowA
    rw [hg]
    congr 2
    rw [← ht, List.take_append_drop, Array.toArray_toList]
set_option maxHeartbeats 1000000 in
set_option maxRecDepth 100000 in
/-- slices.Clone makes a row of its own. -/
theorem clone_o (v0 : Value) (L : List Int) (h1 : 1 ≤ L.length) (h2 : L.length ≤ 1000) (w : World) (hv : RdI w v0 L) :
    Calls Try.prog 25 #[v0] w fun e w' => ∃ g c ex, e = .returned (.slice (some ⟨g, 0, none⟩) L.length c) ∧ L.length ≤ c ∧ w.heap.size ≤ g ∧ At w' g 3 (rowA L ex) ∧ Keeps w w' := by
  obtain ⟨A, c0, rfl, hm, hcs⟩ := id hv
  obtain ⟨b0, o0, u0, rfl, _, _⟩ := hcs 0 (by omega)
  obtain ⟨i0, hi, hz0, hz1, hz2⟩ := info_parts infoI
  have Hown : Hid ((w.alloc (.cells #[] 3)).ownsRow w.heap.size 3 1 (.slice (some ⟨w.heap.size, 0, none⟩) 0 0) 0 []) :=
    Lib.hid ⟨rfl, .inr ⟨w.heap.size, 0, #[], rfl, Nat.le_refl _, At.new w 3 #[], Nat.le_refl _, Nat.zero_le _, rfl, rfl⟩⟩
  have Hcell : Hid (∀ j u, (L.map (Value.int .i64))[j]? = some u → (w.alloc (.cells #[] 3)).cell? ((⟨b0, o0, none⟩ : Addr).add j) = some u) := Lib.hid (by
    intro j u hu
    have hj := (List.getElem?_eq_some_iff.1 hu).1
    rw [List.length_map] at hj
    obtain ⟨b', o', x, e1, e2, rfl⟩ := hcs j hj
    cases e1
    rw [show ((⟨b0, o0, none⟩ : Addr).add j) = ⟨b0, o0 + j, none⟩ from by unfold Addr.add; split <;> simp_all, cell_keep e2 (Keeps.alloc (Below.refl _ _) _), ← hu]
    simp [nth, hj])
  have Hlen : Hid ((L.map (Value.int .i64)).length = L.length * 1) := Lib.hid (by simp)
  have hnil : ∀ W, (binOp .eql 22 (.slice (some ⟨b0, o0, none⟩) L.length c0) (.slice none 0 0)).run Try.prog W = .ok (.bool false) W := fun W => by kernel_rfl
  clear hcs hm hv
  go_enter Try.func25, Try.ntmps25
  go_wp2_with (at_builtin; refine wpList_append_own _ rfl _ _ 22 rfl w.heap.size 3 i0 _ 1 8 Try.underlying22 hi hz0 hz1 hz2 rfl (by decide) _ 0 [] rfl Hown.out ⟨b0, o0, none⟩ L.length c0 (L.map (Value.int .i64)) rfl Hlen.out Hcell.out (fun u hu => by obtain ⟨x, _, rfl⟩ := List.mem_map.1 hu; rfl) (by unfold maxLen; omega) (by omega) (by simp) ?_; intro v' w4 hown4 hgrow4 _)
  go_ret
  rw [Nat.zero_add, List.nil_append] at hown4
  obtain ⟨g, c, ex, rfl, hb, hc, hat⟩ := own_rowA hown4 h1
  exact ⟨g, c, ex, rfl, hc, hb, hat, (Keeps.alloc (Below.refl _ _) _).grown hgrow4 (by simp) (fun r hr => own_base Hown.out r hr)⟩

/-- A list of which the first and the last k are exchanged. -/
def revK (L : List Int) (k : Nat) : List Int := (List.range L.length).map fun i => if i < k ∨ L.length - 1 - i < k then nth L (L.length - 1 - i) else nth L i
theorem revK_length (L : List Int) (k : Nat) : (revK L k).length = L.length := by simp [revK]
theorem revK_nth (L : List Int) (k i : Nat) (h : i < L.length) : nth (revK L k) i = if i < k ∨ L.length - 1 - i < k then nth L (L.length - 1 - i) else nth L i := by simp [nth, revK, h]
theorem nth_setL (L : List Int) (k i : Nat) (x : Int) (h : k < L.length) : nth (L.set k x) i = if k = i then x else nth L i := by
  unfold nth
  rw [List.getElem?_set]
  split
  · rename_i e; subst e; simp [h]
  · rfl
theorem revK_zero (L : List Int) : revK L 0 = L := by
  refine nth_ext' _ _ (by simp [revK]) fun i hi => ?_
  rw [revK_length] at hi
  rw [revK_nth L 0 i hi, if_neg (by omega)]
theorem revK_succ (L : List Int) (k : Nat) (h : k < L.length - 1 - k) : ((revK L k).set k (nth (revK L k) (L.length - 1 - k))).set (L.length - 1 - k) (nth (revK L k) k) = revK L (k + 1) := by
  have hl := revK_length L k
  refine nth_ext' _ _ (by simp [revK]) fun i hi => ?_
  rw [List.length_set, List.length_set, hl] at hi
  rw [nth_setL _ _ _ _ (by rw [List.length_set, hl]; omega), nth_setL _ _ _ _ (by omega), revK_nth L (k + 1) i hi, revK_nth L k i hi, revK_nth L k k (by omega), revK_nth L k (L.length - 1 - k) (by omega)]
  by_cases e1 : L.length - 1 - k = i
  · rw [if_pos e1, if_neg (by omega), if_pos (by omega)]
    congr 1
    omega
  · rw [if_neg e1]
    by_cases e2 : k = i
    · rw [if_pos e2, if_neg (by omega), if_pos (by omega), e2]
    · rw [if_neg e2]
      by_cases e3 : i < k ∨ L.length - 1 - i < k
      · rw [if_pos e3, if_pos (by omega)]
      · rw [if_neg e3, if_neg (by omega)]
theorem revK_end (L : List Int) (k : Nat) (h : ¬ k < L.length - 1 - k) : revK L k = L.reverse := by
  refine nth_ext' _ _ (by simp [revK]) fun i hi => ?_
  rw [revK_length] at hi
  have hr : nth L.reverse i = nth L (L.length - 1 - i) := by simp [nth, List.getElem?_reverse hi]
  rw [revK_nth L k i hi, hr]
  by_cases e : i < k ∨ L.length - 1 - i < k
  · rw [if_pos e]
  · rw [if_neg e]
    congr 1
    omega
theorem cell_setCell {w : World} {p q : Addr} {x v : Value} (h : w.cell? q = some v) : ∃ v', (w.setCell p x).cell? q = some v' := by
  by_cases e : p = q
  · subst e; exact ⟨x, World.cell?_setCell_same w p x h⟩
  · exact ⟨v, (World.cell?_setCell_other w p q x e).trans h⟩
set_option maxHeartbeats 2000000 in
set_option maxRecDepth 100000 in
theorem reverse_c (g c : Nat) (L : List Int) (ex : List Value) (h1 : 1 ≤ L.length) (h16 : L.length ≤ 16) (w : World) (h : At w g 3 (rowA L ex)) :
    Calls Try.prog 53 #[.slice (some ⟨g, 0, none⟩) L.length c] w fun e w' => e = .returned (.tuple #[]) ∧ At w' g 3 (rowA L.reverse ex) ∧ Holds (fun r => r ≠ g) w w' := by
  obtain ⟨n, hn⟩ : ∃ n, L.length = n := ⟨_, rfl⟩
  have hn1 : 1 ≤ n := by omega
  have hn16 : n ≤ 16 := by omega
  rw [hn]
  have Hn := Lib.hid hn
  clear hn h1 h16
  go_enter Try.func53, Try.ntmps53
  go_wp2_with fail
  go_loopw [2, 3] (fun i j wr => ∃ k : Nat, k ≤ n ∧ i = .int .i64 k ∧ j = .int .i64 ((n : Int) - 1 - k) ∧ At wr g 3 (rowA (revK L k) ex) ∧ Holds (fun r => r ≠ g) w wr) (fun i _ _ => n - (intOf i).toNat)
  case atStart => exact ⟨0, Nat.zero_le _, rfl, by simp, by rw [revK_zero]; exact h, Holds.refl _ _⟩
  case round =>
    obtain ⟨k, hk, rfl, rfl, hat, hh⟩ := hrel
    by_cases hlt : k < n - 1 - k
    · obtain ⟨j, hj⟩ : ∃ j, n - 1 - k = j := ⟨_, rfl⟩
      have hjI : (n : Int) - 1 - k = j := by omega
      have hjn : j < n := by omega
      have hkn : k < n := by omega
      have hkj : (k : Int) < j := by omega
      have hrl : (revK L k).length = n := by rw [revK_length, Hn.out]
      have c1 := hat.rowA_cell k (by rw [hrl]; exact hkn)
      have c2 := hat.rowA_cell j (by rw [hrl]; exact hjn)
      have f1 := hat.frozen k
      have f2 := hat.frozen j
      have hnew : Hid (revK L (k + 1) = ((revK L k).set k (nth (revK L k) j)).set j (nth (revK L k) k)) := Lib.hid (by rw [← hj, ← Hn.out]; exact (revK_succ L k (by rw [Hn.out]; exact hlt)).symm)
      have Hrl := Lib.hid hrl
      rw [hjI]
      have q1 : IntKind.i64.wrap ((j : Int) - 1) = (n : Int) - 1 - (k + 1) := by rw [IntWalk.i64_in _ (by omega)]; omega
      have Hat := Lib.hid hat
      clear hj hrl hat
      generalize nth (revK L k) k = x at *
      generalize nth (revK L k) j = y at *
      have hd : (⟨g, k, none⟩ : Addr) ≠ ⟨g, j, none⟩ := fun e => by have := congrArg Addr.off e; simp only at this; omega
      have c3 : (wr.setCell ⟨g, k, none⟩ (.int .i64 y)).drew.cell? ⟨g, j, none⟩ = some (.int .i64 y) := (World.cell?_setCell_other wr ⟨g, k, none⟩ ⟨g, j, none⟩ _ hd).trans c2
      have HjI := Lib.hid hjI
      clear hjI
      go_wp2_with fail
      go_region
      have hA : At ((wr.setCell ⟨g, k, none⟩ (.int .i64 y)).setCell ⟨g, j, none⟩ (.int .i64 x)).drew g 3 (rowA (revK L (k + 1)) ex) := by
        have h1 := (Hat.out.rowA_set k y (by rw [Hrl.out]; exact hkn)).rowA_set j x (by rw [List.length_set, Hrl.out]; exact hjn)
        rw [← hnew.out] at h1
        exact h1
      have hH : Holds (fun r => r ≠ g) w ((wr.setCell ⟨g, k, none⟩ (.int .i64 y)).setCell ⟨g, j, none⟩ (.int .i64 x)).drew := ((hh.set _ (by simp) _).set _ (by simp) _).drew
      generalize ((wr.setCell ⟨g, k, none⟩ (.int .i64 y)).setCell ⟨g, j, none⟩ (.int .i64 x)).drew = W at *
      clear c1 c2 c3 f1 f2 hd
      go_wp2_with fail
      go_roundw
      case rel => exact ⟨k + 1, by omega, by go_num, by rw [show ((k + 1 : Nat) : Int) = (k : Int) + 1 by omega], hA, hH⟩
      case measure => simp [intOf]; omega
    · have hd : decide ((k : Int) < (n : Int) - 1 - k) = false := by simp; omega
      have hrl := revK_end L k (by rw [Hn.out]; exact hlt)
      rw [hrl] at hat
      go_wp2_with fail
      go_end0
      exact ⟨rfl, hat, hh⟩
/-- The board: a cell with the slice of its rows. -/
def Board (W : World) (bb : Nat) (L : List Int) (Q : Nat → Prop) : Prop :=
  ∃ g c ex, At W bb 70 #[.slice (some ⟨g, 0, none⟩) L.length c] ∧ At W g 3 (rowA L ex) ∧ g ≠ bb ∧ ¬ Q g ∧ ¬ Q bb
theorem Board.holds {W W' : World} {bb : Nat} {L : List Int} {Q : Nat → Prop} (h : Board W bb L Q) (hk : Keeps W W') : Board W' bb L Q := by
  obtain ⟨g, c, ex, h1, h2, h3⟩ := h
  exact ⟨g, c, ex, h1.later hk, h2.later hk, h3⟩
set_option maxHeartbeats 1000000 in
theorem revCols_c (bb : Nat) (L : List Int) (Q : Nat → Prop) (h1 : 1 ≤ L.length) (h16 : L.length ≤ 16) (w : World) (hb : Board w bb L Q) :
    Calls Try.prog 45 #[.pointer (some ⟨bb, 0, none⟩)] w fun e w' => e = .returned (.tuple #[]) ∧ Board w' bb L.reverse Q ∧ Holds Q w w' := by
  obtain ⟨g, c, ex, z1, z2, hne, hg, hbb⟩ := hb
  have c1 := z1.cell 0
  simp only [List.getElem?_toArray, List.getElem?_cons_zero] at c1
  have hrv := reverse_c g c L ex h1 h16 w z2
  go_enter Try.func45, Try.ntmps45
  go_wp2_with (go_at_call 53; refine hrv.mono ?_; rintro e w1 ⟨rfl, hat, hh⟩)
  go_end0
  exact ⟨rfl, ⟨g, c, ex, by rw [List.length_reverse]; exact z1.holds hh (fun e => hne e.symm), hat, hne, hg, hbb⟩, hh.mono (fun r _ h e => hg (e ▸ h))⟩
/-- The rows of which the first k are reversed. -/
def mirK (L : List Int) (k : Nat) : List Int := (List.range L.length).map fun i => if i < k then (L.length : Int) - 1 - nth L i else nth L i
theorem mirK_length (L : List Int) (k : Nat) : (mirK L k).length = L.length := by simp [mirK]
theorem mirK_nth (L : List Int) (k i : Nat) (h : i < L.length) : nth (mirK L k) i = if i < k then (L.length : Int) - 1 - nth L i else nth L i := by simp [nth, mirK, h]
theorem mirK_zero (L : List Int) : mirK L 0 = L := by
  refine nth_ext' _ _ (by simp [mirK]) fun i hi => ?_
  rw [mirK_length] at hi
  rw [mirK_nth L 0 i hi, if_neg (by omega)]
theorem mirK_succ (L : List Int) (k : Nat) (h : k < L.length) : (mirK L k).set k ((L.length : Int) - 1 - nth L k) = mirK L (k + 1) := by
  refine nth_ext' _ _ (by simp [mirK]) fun i hi => ?_
  rw [List.length_set, mirK_length] at hi
  rw [nth_setL _ _ _ _ (by rw [mirK_length]; exact h), mirK_nth L k i hi, mirK_nth L (k + 1) i hi]
  by_cases e : k = i
  · subst e; rw [if_pos rfl, if_pos (by omega)]
  · rw [if_neg e]
    by_cases e2 : i < k
    · rw [if_pos e2, if_pos (by omega)]
    · rw [if_neg e2, if_neg (by omega)]
def mirL (L : List Int) : List Int := L.map fun x => (L.length : Int) - 1 - x
theorem mirK_end (L : List Int) : mirK L L.length = mirL L := by
  refine nth_ext' _ _ (by simp [mirK, mirL]) fun i hi => ?_
  rw [mirK_length] at hi
  rw [mirK_nth L _ i hi, if_pos hi]
  simp [mirL, nth, hi]
set_option maxHeartbeats 2000000 in
set_option maxRecDepth 100000 in
theorem revRows_c (bb : Nat) (L : List Int) (Q : Nat → Prop) (h16 : L.length ≤ 16) (hin : ∀ i, i < L.length → 0 ≤ nth L i ∧ nth L i < L.length) (w : World) (hb : Board w bb L Q) :
    Calls Try.prog 46 #[.pointer (some ⟨bb, 0, none⟩)] w fun e w' => e = .returned (.tuple #[]) ∧ Board w' bb (mirL L) Q ∧ Holds Q w w' := by
  obtain ⟨g, c, ex, z1, z2, hne, hg, hbb⟩ := hb
  obtain ⟨n, hn⟩ : ∃ n, L.length = n := ⟨_, rfl⟩
  rw [hn] at h16 hin z1
  have c1 := z1.cell 0
  simp only [List.getElem?_toArray, List.getElem?_cons_zero] at c1
  have Hn := Lib.hid hn
  have Hin := Lib.hid hin
  clear hn hin
  go_enter Try.func46, Try.ntmps46
  go_wp2_with fail
  clear c1
  go_loopw [9] (fun i wr => ∃ k : Nat, k ≤ n ∧ i = .int .i64 k ∧ At wr g 3 (rowA (mirK L k) ex) ∧ At wr bb 70 #[.slice (some ⟨g, 0, none⟩) n c] ∧ Holds Q w wr) (fun i _ => n - (intOf i).toNat)
  case atStart => exact ⟨0, Nat.zero_le _, rfl, by rw [mirK_zero]; exact z2, z1, Holds.refl _ _⟩
  case round =>
    obtain ⟨k, hk, rfl, hat, hz, hh⟩ := hrel
    by_cases hlt : k < n
    · have hml : (mirK L k).length = n := by rw [mirK_length, Hn.out]
      have c1 := hat.rowA_cell k (by rw [hml]; exact hlt)
      rw [mirK_nth L k k (by rw [Hn.out]; exact hlt), if_neg (by omega)] at c1
      have c2 := hz.cell 0
      simp only [List.getElem?_toArray, List.getElem?_cons_zero] at c2
      have f1 := hat.frozen k
      obtain ⟨i0, i1⟩ := Hin.out k hlt
      have hnew : Hid ((mirK L k).set k ((n : Int) - 1 - nth L k) = mirK L (k + 1)) := Lib.hid (by rw [← Hn.out]; exact mirK_succ L k (by rw [Hn.out]; exact hlt))
      have Hat := Lib.hid hat
      have Hz := Lib.hid hz
      have Hml := Lib.hid hml
      have q1 : IntKind.i64.wrap ((n : Int) - 1) = (n : Int) - 1 := IntWalk.i64_in _ (by omega)
      have q2 : IntKind.i64.wrap ((n : Int) - 1 - nth L k) = (n : Int) - 1 - nth L k := IntWalk.i64_in _ (by omega)
      clear hat hz hml
      generalize nth L k = x at *
      go_wp2_with fail
      go_region
      have hA : At (wr.setCell ⟨g, k, none⟩ (.int .i64 ((n : Int) - 1 - x))).drew g 3 (rowA (mirK L (k + 1)) ex) := by
        have h1 := Hat.out.rowA_set k ((n : Int) - 1 - x) (by rw [Hml.out]; exact hlt)
        rw [hnew.out] at h1
        exact h1
      have hH : Holds Q w (wr.setCell ⟨g, k, none⟩ (.int .i64 ((n : Int) - 1 - x))).drew := (hh.set _ hg _).drew
      have hZ : At (wr.setCell ⟨g, k, none⟩ (.int .i64 ((n : Int) - 1 - x))).drew bb 70 #[.slice (some ⟨g, 0, none⟩) n c] := Hz.out.far (p := ⟨g, k, none⟩) (fun e => hne e.symm) _
      generalize (wr.setCell ⟨g, k, none⟩ (.int .i64 ((n : Int) - 1 - x))).drew = W at *
      clear c1 c2 f1
      go_wp2_with fail
      go_roundw
      case rel => exact ⟨k + 1, by omega, by go_num, hA, hZ, hH⟩
      case measure => simp [intOf]; omega
    · obtain rfl : k = n := by omega
      have hrl := mirK_end L
      rw [Hn.out] at hrl
      rw [hrl] at hat
      have Hat := Lib.hid hat
      have Hz := Lib.hid hz
      clear hat hz
      go_wp2_with fail
      go_end0
      exact ⟨rfl, ⟨g, c, ex, by simp only [mirL, List.length_map, Hn.out]; exact Hz.out, Hat.out, hne, hg, hbb⟩, hh⟩
/-- Rows and columns exchanged, as far as k. -/
def exK (L : List Int) (k : Nat) : List Int := (List.range k).foldl (fun C i => C.set (nth L i).toNat (i : Int)) (List.replicate L.length 0)
theorem exK_succ (L : List Int) (k : Nat) : exK L (k + 1) = (exK L k).set (nth L k).toNat (k : Int) := by simp [exK, List.range_succ]
theorem exK_length (L : List Int) (k : Nat) : (exK L k).length = L.length := by
  induction k with
  | zero => simp [exK]
  | succ k ih => rw [exK_succ, List.length_set, ih]
def exL (L : List Int) : List Int := exK L L.length
theorem ic_rowA (L : List Int) : ic L = rowA L [] := by simp [ic, rowA]
set_option maxHeartbeats 2000000 in
set_option maxRecDepth 100000 in
theorem exch_c (bb : Nat) (L : List Int) (Q : Nat → Prop) (h16 : L.length ≤ 16) (hin : ∀ i, i < L.length → 0 ≤ nth L i ∧ nth L i < L.length) (w : World) (hQ : ∀ r, Q r → r < w.heap.size) (hb : Board w bb L Q) :
    Calls Try.prog 47 #[.pointer (some ⟨bb, 0, none⟩)] w fun e w' => e = .returned (.tuple #[]) ∧ Board w' bb (exL L) Q ∧ Holds Q w w' := by
  obtain ⟨g, c, ex, z1, z2, hne, hg, hbb⟩ := hb
  obtain ⟨n, hn⟩ : ∃ n, L.length = n := ⟨_, rfl⟩
  rw [hn] at h16 hin z1
  have c1 := z1.cell 0
  simp only [List.getElem?_toArray, List.getElem?_cons_zero] at c1
  have hmk := makeI (n : Int) n rfl (by omega)
  have Hn := Lib.hid hn
  have Hin := Lib.hid hin
  have Z1 := Lib.hid z1
  have hgw := z2.lt
  have hbw := z1.lt
  clear hn hin
  go_enter Try.func47, Try.ntmps47
  go_upto_region 1 with fail
  have hk1 : Keeps w (w.alloc (.cells (ic (List.replicate n 0)) 3)) := Keeps.alloc (Below.refl _ _) _
  have z1' := z1.later hk1
  have z2' := z2.later hk1
  have z3 : At (w.alloc (.cells (ic (List.replicate n 0)) 3)) w.heap.size 3 (rowA (exK L 0) []) := by
    have := At.new w 3 (ic (List.replicate n 0))
    rw [ic_rowA] at this
    rw [ic_rowA]
    unfold exK
    rw [Hn.out]
    exact this
  obtain ⟨Y, hY⟩ : ∃ Y, w.alloc (.cells (ic (List.replicate n 0)) 3) = Y := ⟨_, rfl⟩
  rw [hY] at hk1 z1' z2' z3
  rw [hY]
  have c2 := z1'.cell 0
  simp only [List.getElem?_toArray, List.getElem?_cons_zero] at c2
  clear hY hmk c1
  go_wp2_with fail
  clear c2
  go_loopw [16] (fun i wr => ∃ k : Nat, k ≤ n ∧ i = .int .i64 k ∧ At wr w.heap.size 3 (rowA (exK L k) []) ∧ Below w.heap.size w wr) (fun i _ => n - (intOf i).toNat)
  case atStart => exact ⟨0, Nat.zero_le _, rfl, z3, hk1⟩
  case round =>
    obtain ⟨k, hk, rfl, hat, hbe⟩ := hrel
    have hz := z1.later hbe
    have hz2 := z2.later hbe
    by_cases hlt : k < n
    · obtain ⟨i0, i1⟩ := Hin.out k hlt
      have c1 := hz2.rowA_cell k (by rw [Hn.out]; exact hlt)
      have hsc := exK_succ L k
      obtain ⟨x, hx⟩ := Int.eq_ofNat_of_zero_le i0
      rw [hx] at c1 hsc i1
      rw [Int.toNat_natCast] at hsc
      have hel : (exK L k).length = n := by rw [exK_length, Hn.out]
      have hxn : x < n := by omega
      have c2 := hat.rowA_cell x (by rw [hel]; exact hxn)
      have f2 := hat.frozen x
      have hA := hat.rowA_set x k (by rw [hel]; exact hxn)
      rw [← hsc] at hA
      have HA := Lib.hid hA
      clear hx i0 hsc hel hA hat hz hz2
      go_wp2_with fail
      go_roundw
      case rel => exact ⟨k + 1, by omega, by go_num, HA.out, hbe.setCell (by simp) _⟩
      case measure => simp [intOf]; omega
    · obtain rfl : n = k := by omega
      have c1 := hz.cell 0
      simp only [List.getElem?_toArray, List.getElem?_cons_zero] at c1
      have f1 := hz.frozen 0
      have hel : (exL L).length = n := by unfold exL; rw [exK_length, Hn.out]
      have heq : exL L = exK L n := by unfold exL; rw [Hn.out]
      have Hz := Lib.hid hz
      have Hat := Lib.hid hat
      have Hel := Lib.hid hel
      have Heq := Lib.hid heq
      clear hz hat hel heq hz2
      go_wp2_with fail
      go_end0
      refine ⟨rfl, ⟨w.heap.size, n, [], ?_, ?_, by omega, fun h => by have := hQ _ h; omega, hbb⟩, ?_⟩
      · rw [Hel.out]; exact Hz.out.set 0 _
      · rw [Heq.out]; exact Hat.out.far (p := ⟨bb, 0, none⟩) (by simp; omega) _
      · exact ((Holds.of_below hbe).mono (fun r _ h => hQ r h)).set _ hbb _
end Go.Proofs.Ytodopdfjjgpdeaa
