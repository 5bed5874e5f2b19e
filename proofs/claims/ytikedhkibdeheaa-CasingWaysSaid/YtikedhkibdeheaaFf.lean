/- The walk of Factors. -/
import Derived.Test.YtikedhkibdeheaaFc
import Derived.Test.YtikedhkibdeheaaCg
import Derived.Test.YtikedhkibdeheaaTb
import Derived.Test.YtikedhkibdeheaaCo
namespace Go.Proofs.Ytikedhkibdeheaa
open Go.RowKit

def allF (g : Int) (rules : List ByteArray) : List Int :=
  dE rules :: (if g = 2 then [dD rules rules.length / max (dE rules) 1] else [])
def bigs (l : List Int) : List Int := l.filter fun x => decide (1 < x)
def frees (l : List Int) : Int := (l.filter fun x => decide (x = 0)).length
theorem bigs_snoc (l : List Int) (k : Nat) (h : k < l.length) : bigs (l.take (k + 1)) = bigs (l.take k) ++ (if 1 < nth l k then [nth l k] else []) := by
  rw [List.take_succ_eq_append_getElem h, bigs, List.filter_append, nth, List.getElem?_eq_getElem h]
  simp only [bigs, Option.getD_some, List.filter_cons, List.filter_nil, decide_eq_true_eq]
theorem frees_snoc (l : List Int) (k : Nat) (h : k < l.length) : frees (l.take (k + 1)) = frees (l.take k) + (if nth l k = 0 then 1 else 0) := by
  rw [List.take_succ_eq_append_getElem h, frees, frees, List.filter_append, nth, List.getElem?_eq_getElem h]
  simp only [Option.getD_some, List.filter_cons, List.filter_nil, decide_eq_true_eq, List.length_append]
  split <;> simp
theorem frees_le (l : List Int) : 0 ≤ frees l ∧ frees l ≤ l.length := ⟨by unfold frees; omega, by unfold frees; have := List.length_filter_le (fun x : Int => decide (x = 0)) l; omega⟩
theorem bigs_le (l : List Int) : (bigs l).length ≤ l.length := List.length_filter_le _ l
theorem small_of (g : Int) (rules : List ByteArray) (h : groupB g rules = true) : small rules := by
  intro r hr
  simp only [groupB, Bool.and_eq_true, decide_eq_true_eq] at h
  have := List.all_eq_true.1 h.2.2 r hr
  simp only [wordB, Bool.and_eq_true, decide_eq_true_eq] at this
  simpa using this.1
theorem dE_le (rules : List ByteArray) (hz : small rules) : ∀ k, k ≤ rules.length → 0 ≤ dE (rules.take k) ∧ dE (rules.take k) ≤ 30
  | 0, _ => by simp [dE]
  | k + 1, h => by
    have ih := dE_le rules hz k (by omega)
    have hk : rules[k]? = some rules[k] := List.getElem?_eq_getElem (by omega)
    obtain ⟨⟨a1, a2⟩, ⟨b1, b2⟩⟩ := ex_small rules[k] (hz _ (List.mem_of_getElem? hk))
    rw [dE_snoc rules k _ hk]
    have h1 := gcd_le (dE (rules.take k)) (exA rules[k].data.toList) 30 (by omega) (by omega) a1 a2
    exact gcd_le _ _ 30 (by omega) h1.2 b1 b2
theorem dDi_le (a : Int) (r : ByteArray) (hr : r.size ≤ 30) (ha : 0 ≤ a ∧ a ≤ 1800) (qs : List ByteArray) (hz : small qs) : ∀ k, k ≤ qs.length → 0 ≤ dDi a r (qs.take k) ∧ dDi a r (qs.take k) ≤ 1800
  | 0, _ => by simpa [dDi] using ha
  | k + 1, h => by
    have ih := dDi_le a r hr ha qs hz k (by omega)
    have hk : qs[k]? = some qs[k] := List.getElem?_eq_getElem (by omega)
    obtain ⟨⟨a1, a2⟩, ⟨b1, b2⟩⟩ := ex_small r hr
    obtain ⟨⟨c1, c2⟩, ⟨d1, d2⟩⟩ := ex_small qs[k] (hz _ (List.mem_of_getElem? hk))
    obtain ⟨m1, m2⟩ := mul_small (exA r.data.toList) (exB qs[k].data.toList) a1 a2 d1 d2
    obtain ⟨m3, m4⟩ := mul_small (exB r.data.toList) (exA qs[k].data.toList) b1 b2 c1 c2
    rw [dDi_snoc a r qs k _ hk]
    exact gcd_le _ _ 1800 (by omega) (by omega) (by unfold det; omega) (by unfold det; omega)
theorem dD_le (rules : List ByteArray) (hz : small rules) : ∀ k, k ≤ rules.length → 0 ≤ dD rules k ∧ dD rules k ≤ 1800
  | 0, _ => by simp [dD]
  | k + 1, h => by
    have ih := dD_le rules hz k (by omega)
    have hk : rules[k]? = some rules[k] := List.getElem?_eq_getElem (by omega)
    rw [dD_snoc rules k _ hk]
    have := dDi_le (dD rules k) rules[k] (hz _ (List.mem_of_getElem? hk)) ih rules hz k (by omega)
    exact this

theorem below_grown'' {B : Nat} {a w w' : World} {row : Option Nat} (h : Below B a w) (hg : w.grownBy w' row) (hB : ∀ g, row = some g → B ≤ g) (hw : B ≤ w.heap.size) : Below B a w' :=
  h.grown hg hw hB
theorem below_grown' {B : Nat} {a w w' : World} {b : Nat} (h : Below B a w) (hg : w.grownBy w' (some b)) (hB : B ≤ b) (hw : B ≤ w.heap.size) : Below B a w' :=
  h.grown hg hw (fun k e => by cases e; exact hB)
set_option maxHeartbeats 2000000 in
set_option maxRecDepth 100000 in
theorem factors_2 (v : Value) (rules : List ByteArray) (hz : szOk rules) (hG : groupB 2 rules = true) (w : World) (hv : RdS w v rules) (hcap : Cap v) :
    Calls Try.prog 15 #[.agg #[.int .i64 2, v]] w fun e w' => ∃ u, e = .returned (.tuple #[u, .int .i64 (frees (allF 2 rules)), .int .i64 0]) ∧ RdIB (fun r => w.heap.size ≤ r) w' u (bigs (allF 2 rules)) ∧ Keeps w w' := by
  have hs := small_of _ _ hG
  obtain ⟨i0, hi, hz0, hz1, hz2⟩ := info_parts infoI
  have hvb := fun o => hv.below (Keeps.alloc (Below.refl _ w) o)
  have hE := dE_le rules hs rules.length (Nat.le_refl _)
  rw [List.take_length] at hE
  have hD := dD_le rules hs rules.length (Nat.le_refl _)
  have hdc := fun x (h : RdS x v rules) => divisors_c v rules hs x h hcap
  obtain ⟨all, hall⟩ : ∃ all, all = allF 2 rules := ⟨_, rfl⟩
  rw [← hall]
  rw [allF, if_pos rfl] at hall
  generalize dE rules = E at *
  generalize dD rules rules.length = D at *
  have hlen : all.length = 2 := by rw [hall]; rfl
  have hmap : all.map (Value.int .i64) = [.int .i64 E, .int .i64 (D / max E 1)] := by rw [hall]; rfl
  have hx0 : ∀ k, 0 ≤ nth all k ∧ nth all k ≤ 1800 := by
    have hq : 0 ≤ D / max E 1 ∧ D / max E 1 ≤ 1800 := ⟨Int.ediv_nonneg hD.1 (by omega), Int.le_trans (Int.ediv_le_self _ hD.1) hD.2⟩
    intro k
    rw [hall]
    match k with
    | 0 => exact ⟨hE.1, by show E ≤ 1800; omega⟩
    | 1 => exact hq
    | _ + 2 => exact ⟨Int.le_refl 0, show (0 : Int) ≤ 1800 by decide⟩
  have Hx0 := Lib.hid hx0
  clear hall hx0
  obtain ⟨E1, E2⟩ := hE
  obtain ⟨D1, D2⟩ := hD
  go_enter Try.func15, Try.ntmps15
  go_wp2_with (
    first
    | (go_at_call 35; refine (isGroup_c 2 v rules hz _ (hvb _)).mono ?_; rw [hG]; rintro e w1 ⟨rfl, hb1⟩; have hbx := (At.new w 25 #[.int .i64 2, v]).later hb1; have hbx0 := hbx.cell 0; have hbx1 := hbx.cell 1)
    | (go_at_call 39; refine (hdc _ ((hvb _).below hb1)).mono ?_; rintro e w2 ⟨rfl, hb2⟩; have hby := hbx.later hb2; have hby0 := fun o : Obj => (hby.alloc o).cell 0; have hbw := Keeps.next (Keeps.next (Keeps.alloc (Below.refl _ w) _) hb1) hb2; have hsz := hbw.size; clear hbx0 hbx1)
    | (at_builtin; refine wpList_append_own _ rfl _ _ 35 rfl w.heap.size 3 i0 _ 1 8 Try.underlying35 hi hz0 hz1 hz2 rfl (by decide) _ 1 [.int .i64 E] rfl ((World.ownsRow_lit w2 #[.int .i64 E] 1 hsz (by unfold maxLen; omega) rfl).alloc _) _ 1 1 [.int .i64 (D / max E 1)] rfl rfl (new_cells _ _ _ _ (by simp)) (by simp [Value.oneCell']) (by unfold maxLen; omega) (by omega) (by simp; omega) ?_; intro v' w3 hown3 hgrow3 _; obtain ⟨g, cap, rfl, hg1, hg2, _, _, hcell⟩ := own_form hown3 (by omega)))
  have hb3 : Keeps w w3 := below_grown' (Keeps.alloc (Keeps.alloc hbw _) _) hgrow3 (by simpa [Value.ownBlock] using hsz) (by simp; omega)
  have hnth : ∀ k, k < 2 → w3.cell? ⟨g, k, none⟩ = some (.int .i64 (nth all k)) := by
    intro k hk
    refine hcell k _ ?_
    show [Value.int .i64 E, .int .i64 (D / max E 1)][k]? = _
    rw [← hmap, List.getElem?_map, nth, List.getElem?_eq_getElem (by omega)]; rfl
  have hg3 : ∀ wr, Below w3.heap.size w3 wr → ∀ k, k < 2 → wr.cell? ⟨g, k, none⟩ = some (.int .i64 (nth all k)) := fun wr h k hk => cell_keep (hnth k hk) h
  clear hnth hcell hmap hown3 hvb hdc
  go_loopw [9, 10, 37] (fun u c i wr => ∃ k : Nat, k ≤ 2 ∧ i = .int .i64 k ∧ c = .int .i64 (frees (all.take k)) ∧ wr.ownsRow w3.heap.size 3 1 u (bigs (all.take k)).length ((bigs (all.take k)).map (Value.int .i64)) ∧ Below w3.heap.size w3 wr) (fun _ _ i _ => 2 - (intOf i).toNat)
  case atStart => exact ⟨0, by omega, rfl, rfl, World.ownsRow_nil _ _ _ _, Below.refl _ _⟩
  case round =>
    obtain ⟨k, hk, rfl, rfl, hown, hb⟩ := hrel
    by_cases hlt : k < 2
    · have hck := hg3 wr hb k hlt
      obtain ⟨x1, x2⟩ := Hx0.out k
      obtain ⟨f1, f2⟩ := frees_le (all.take k)
      have hfl : frees (all.take k) ≤ 2 := by have := List.length_take_le k all; omega
      have hbl : (bigs (all.take k)).length ≤ 2 := by have := bigs_le (all.take k); have := List.length_take_le k all; omega
      have Hb := Lib.hid (bigs_snoc all k (by omega))
      have Hf := Lib.hid (frees_snoc all k (by omega))
      have hws := hb.size
      clear hg3 f2
      generalize nth all k = x at *
      by_cases h0 : x = 0
      · subst h0
        go_wp2_with fail
        go_roundw
        case rel => exact ⟨k + 1, by omega, by go_num, by rw [Hf.out, if_pos rfl], by rw [Hb.out, if_neg (by decide), List.append_nil]; exact hown, hb⟩
        case measure => simp [intOf]; omega
      · by_cases h1 : 1 < x
        · go_wp2_with (at_builtin; refine wpList_append_own _ rfl _ _ 35 rfl w3.heap.size 3 i0 _ 1 8 Try.underlying35 hi hz0 hz1 hz2 rfl (by decide) _ (bigs (all.take k)).length ((bigs (all.take k)).map (Value.int .i64)) rfl (hown.alloc _) _ 1 1 [.int .i64 x] rfl rfl (new_cells _ _ _ _ (by simp)) (by simp [Value.oneCell']) (by unfold maxLen; omega) (by omega) (by simp; omega) ?_; intro v' w4 hown4 hgrow4 _)
          go_roundw
          case rel => exact ⟨k + 1, by omega, by go_num, by rw [Hf.out, if_neg h0, Int.add_zero], by rw [Hb.out, if_pos h1, List.length_append, List.map_append]; exact hown4, below_grown'' (hb.alloc hws _) hgrow4 (own_base hown) (by simp; omega)⟩
          case measure => simp [intOf]; omega
        · go_wp2_with fail
          go_roundw
          case rel => exact ⟨k + 1, by omega, by go_num, by rw [Hf.out, if_neg h0, Int.add_zero], by rw [Hb.out, if_neg h1, List.append_nil]; exact hown, hb⟩
          case measure => simp [intOf]; omega
    · have hk2 : k = all.length := by omega
      subst hk2
      rw [List.take_length] at *
      go_wp2_with fail
      refine bodyPost_ret (results_tmp3 (t := 2) (u := 3) (v := 4) (by rfl) _ _ _) rfl ⟨_, rfl, ?_, hb3.trans (hb.mono (by have := hb3.size; omega))⟩
      exact (own_ints hown (by have := bigs_le all; unfold maxLen; omega)).to (Holds.refl (fun _ => True) _) (fun b _ h => ⟨trivial, by have := hb3.size; omega⟩)

set_option maxHeartbeats 2000000 in
set_option maxRecDepth 100000 in
theorem factors_1 (v : Value) (rules : List ByteArray) (hz : szOk rules) (hG : groupB 1 rules = true) (w : World) (hv : RdS w v rules) (hcap : Cap v) :
    Calls Try.prog 15 #[.agg #[.int .i64 1, v]] w fun e w' => ∃ u, e = .returned (.tuple #[u, .int .i64 (frees (allF 1 rules)), .int .i64 0]) ∧ RdIB (fun r => w.heap.size ≤ r) w' u (bigs (allF 1 rules)) ∧ Keeps w w' := by
  have hs := small_of _ _ hG
  obtain ⟨i0, hi, hz0, hz1, hz2⟩ := info_parts infoI
  have hvb := fun o => hv.below (Keeps.alloc (Below.refl _ w) o)
  have hE := dE_le rules hs rules.length (Nat.le_refl _)
  rw [List.take_length] at hE
  have hD := dD_le rules hs rules.length (Nat.le_refl _)
  have hdc := fun x (h : RdS x v rules) => divisors_c v rules hs x h hcap
  obtain ⟨all, hall⟩ : ∃ all, all = allF 1 rules := ⟨_, rfl⟩
  rw [← hall]
  rw [allF, if_neg (by decide)] at hall
  generalize dE rules = E at *
  generalize dD rules rules.length = D at *
  have hlen : all.length = 1 := by rw [hall]; rfl
  have hmap : all.map (Value.int .i64) = [.int .i64 E] := by rw [hall]; rfl
  have hx0 : ∀ k, 0 ≤ nth all k ∧ nth all k ≤ 1800 := by
    have hq : 0 ≤ D / max E 1 ∧ D / max E 1 ≤ 1800 := ⟨Int.ediv_nonneg hD.1 (by omega), Int.le_trans (Int.ediv_le_self _ hD.1) hD.2⟩
    intro k
    rw [hall]
    match k with
    | 0 => exact ⟨hE.1, by show E ≤ 1800; omega⟩
    | 1 => exact ⟨Int.le_refl 0, show (0 : Int) ≤ 1800 by decide⟩
    | _ + 2 => exact ⟨Int.le_refl 0, show (0 : Int) ≤ 1800 by decide⟩
  have Hx0 := Lib.hid hx0
  clear hall hx0
  obtain ⟨E1, E2⟩ := hE
  obtain ⟨D1, D2⟩ := hD
  go_enter Try.func15, Try.ntmps15
  go_wp2_with (
    first
    | (go_at_call 35; refine (isGroup_c 1 v rules hz _ (hvb _)).mono ?_; rw [hG]; rintro e w1 ⟨rfl, hb1⟩; have hbx := (At.new w 25 #[.int .i64 1, v]).later hb1; have hbx0 := hbx.cell 0; have hbx1 := hbx.cell 1)
    | (go_at_call 39; refine (hdc _ ((hvb _).below hb1)).mono ?_; rintro e w2 ⟨rfl, hb2⟩; have hby := hbx.later hb2; have hby0 := fun o : Obj => (hby.alloc o).cell 0; have hbw := Keeps.next (Keeps.next (Keeps.alloc (Below.refl _ w) _) hb1) hb2; have hsz := hbw.size; clear hbx0 hbx1)
    | (at_builtin; refine wpList_append_own _ rfl _ _ 35 rfl w.heap.size 3 i0 _ 1 8 Try.underlying35 hi hz0 hz1 hz2 rfl (by decide) _ 1 [.int .i64 E] rfl ((World.ownsRow_lit w2 #[.int .i64 E] 1 hsz (by unfold maxLen; omega) rfl).alloc _) _ 1 1 [.int .i64 (D / max E 1)] rfl rfl (new_cells _ _ _ _ (by simp)) (by simp [Value.oneCell']) (by unfold maxLen; omega) (by omega) (by simp; omega) ?_; intro v' w3 hown3 hgrow3 _; obtain ⟨g, cap, rfl, hg1, hg2, _, _, hcell⟩ := own_form hown3 (by omega)))
  have hown3 := World.ownsRow_lit (e := 3) (size := 1) (base := w.heap.size) w2 #[.int .i64 E] 1 hsz (by unfold maxLen; omega) rfl
  have hb3 : Keeps w (w2.alloc (.cells #[.int .i64 E] 3)) := Keeps.alloc hbw _
  have hg2 : w2.heap.size < (w2.alloc (.cells #[.int .i64 E] 3)).heap.size := by simp
  have hcell : ∀ (j : Nat) (u : Value), [Value.int .i64 E][j]? = some u → (w2.alloc (.cells #[.int .i64 E] 3)).cell? ⟨w2.heap.size, j, none⟩ = some u := fun j u hu => by rw [(At.new w2 _ _).cell]; simpa using hu
  generalize w2.alloc (.cells #[.int .i64 E] 3) = w3 at *
  generalize w2.heap.size = g at *
  have hnth : ∀ k, k < 1 → w3.cell? ⟨g, k, none⟩ = some (.int .i64 (nth all k)) := by
    intro k hk
    refine hcell k _ ?_
    show [Value.int .i64 E][k]? = _
    rw [← hmap, List.getElem?_map, nth, List.getElem?_eq_getElem (by omega)]; rfl
  have hg3 : ∀ wr, Below w3.heap.size w3 wr → ∀ k, k < 1 → wr.cell? ⟨g, k, none⟩ = some (.int .i64 (nth all k)) := fun wr h k hk => cell_keep (hnth k hk) h
  clear hnth hcell hmap hown3 hvb hdc
  go_loopw [9, 10, 37] (fun u c i wr => ∃ k : Nat, k ≤ 1 ∧ i = .int .i64 k ∧ c = .int .i64 (frees (all.take k)) ∧ wr.ownsRow w3.heap.size 3 1 u (bigs (all.take k)).length ((bigs (all.take k)).map (Value.int .i64)) ∧ Below w3.heap.size w3 wr) (fun _ _ i _ => 1 - (intOf i).toNat)
  case atStart => exact ⟨0, by omega, rfl, rfl, World.ownsRow_nil _ _ _ _, Below.refl _ _⟩
  case round =>
    obtain ⟨k, hk, rfl, rfl, hown, hb⟩ := hrel
    by_cases hlt : k < 1
    · have hck := hg3 wr hb k hlt
      obtain ⟨x1, x2⟩ := Hx0.out k
      obtain ⟨f1, f2⟩ := frees_le (all.take k)
      have hfl : frees (all.take k) ≤ 2 := by have := List.length_take_le k all; omega
      have hbl : (bigs (all.take k)).length ≤ 2 := by have := bigs_le (all.take k); have := List.length_take_le k all; omega
      have Hb := Lib.hid (bigs_snoc all k (by omega))
      have Hf := Lib.hid (frees_snoc all k (by omega))
      have hws := hb.size
      clear hg3 f2
      generalize nth all k = x at *
      by_cases h0 : x = 0
      · subst h0
        go_wp2_with fail
        go_roundw
        case rel => exact ⟨k + 1, by omega, by go_num, by rw [Hf.out, if_pos rfl], by rw [Hb.out, if_neg (by decide), List.append_nil]; exact hown, hb⟩
        case measure => simp [intOf]; omega
      · by_cases h1 : 1 < x
        · go_wp2_with (at_builtin; refine wpList_append_own _ rfl _ _ 35 rfl w3.heap.size 3 i0 _ 1 8 Try.underlying35 hi hz0 hz1 hz2 rfl (by decide) _ (bigs (all.take k)).length ((bigs (all.take k)).map (Value.int .i64)) rfl (hown.alloc _) _ 1 1 [.int .i64 x] rfl rfl (new_cells _ _ _ _ (by simp)) (by simp [Value.oneCell']) (by unfold maxLen; omega) (by omega) (by simp; omega) ?_; intro v' w4 hown4 hgrow4 _)
          go_roundw
          case rel => exact ⟨k + 1, by omega, by go_num, by rw [Hf.out, if_neg h0, Int.add_zero], by rw [Hb.out, if_pos h1, List.length_append, List.map_append]; exact hown4, below_grown'' (hb.alloc hws _) hgrow4 (own_base hown) (by simp; omega)⟩
          case measure => simp [intOf]; omega
        · go_wp2_with fail
          go_roundw
          case rel => exact ⟨k + 1, by omega, by go_num, by rw [Hf.out, if_neg h0, Int.add_zero], by rw [Hb.out, if_neg h1, List.append_nil]; exact hown, hb⟩
          case measure => simp [intOf]; omega
    · have hk2 : k = all.length := by omega
      subst hk2
      rw [List.take_length] at *
      go_wp2_with fail
      refine bodyPost_ret (results_tmp3 (t := 2) (u := 3) (v := 4) (by rfl) _ _ _) rfl ⟨_, rfl, ?_, hb3.trans (hb.mono (by have := hb3.size; omega))⟩
      exact (own_ints hown (by have := bigs_le all; unfold maxLen; omega)).to (Holds.refl (fun _ => True) _) (fun b _ h => ⟨trivial, by have := hb3.size; omega⟩)

theorem factors_no (g : Int) (v : Value) (rules : List ByteArray) (hz : szOk rules) (hG : groupB g rules = false) (w : World) (hv : RdS w v rules) :
    Calls Try.prog 15 #[.agg #[.int .i64 g, v]] w fun e w' => e = .returned (.tuple #[.slice none 0 0, .int .i64 0, .int .i64 2]) ∧ Keeps w w' := by
  have hvb := fun o => hv.below (Keeps.alloc (Below.refl _ w) o)
  go_enter Try.func15, Try.ntmps15
  go_wp2_with (first | (go_at_call 35; refine (isGroup_c g v rules hz _ (hvb _)).mono ?_; rw [hG]; rintro e w1 ⟨rfl, hb1⟩))
  refine bodyPost_ret (results_tmp3 (t := 2) (u := 3) (v := 4) (by rfl) _ _ _) rfl ⟨rfl, Keeps.next (Keeps.alloc (Below.refl _ w) _) hb1⟩
def facL (g : Int) (rules : List ByteArray) : List Int := if groupB g rules then bigs (allF g rules) else []
def facN (g : Int) (rules : List ByteArray) : Int := if groupB g rules then frees (allF g rules) else 0
theorem factors_c (g : Int) (v : Value) (rules : List ByteArray) (hz : szOk rules) (w : World) (hv : RdS w v rules) (hcap : Cap v) :
    Calls Try.prog 15 #[.agg #[.int .i64 g, v]] w fun e w' => ∃ u, e = .returned (.tuple #[u, .int .i64 (facN g rules), .int .i64 (codeN (groupB g rules))]) ∧ RdIB (fun r => w.heap.size ≤ r) w' u (facL g rules) ∧ Keeps w w' := by
  by_cases hG : groupB g rules = true
  · rw [facN, facL, hG]
    rcases (groupB_parts _ _ hG).1 with rfl | rfl
    · exact factors_1 v rules hz hG w hv hcap
    · exact factors_2 v rules hz hG w hv hcap
  · have hG' : groupB g rules = false := by simpa using hG
    rw [facN, facL, hG']
    refine (factors_no g v rules hz hG' w hv).mono ?_
    rintro e w' ⟨rfl, hb⟩
    exact ⟨_, rfl, ⟨none, 0, rfl, by unfold maxLen; simp, fun k hk => by simp at hk⟩, hb⟩
end Go.Proofs.Ytikedhkibdeheaa
