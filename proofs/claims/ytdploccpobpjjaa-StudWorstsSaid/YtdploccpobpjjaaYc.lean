/- The walk of withCorner. -/
import Derived.Test.YtdploccpobpjjaaYb
import Derived.RegionTactic
import Derived.BigRegion
import Derived.Deep.Cut
namespace Go.Proofs.Ytdploccpobpjjaa
open Go.RowKit Go.Shelf
set_option linter.unusedVariables false
set_option linter.unusedSimpArgs false

/-- A row of ints with room behind it. -/
def rowE (L : List Int) (ex : List Value) : Array Value := (L.map (Value.int .i64) ++ ex).toArray
theorem rowE_set (L : List Int) (ex : List Value) (k : Nat) (x : Int) (h : k < L.length) : (rowE L ex).setIfInBounds k (.int .i64 x) = rowE (L.set k x) ex := by
  unfold rowE
  rw [List.setIfInBounds_toArray, List.set_append_left _ _ (by simpa using h), List.map_set]
theorem rowE_at (L : List Int) (ex : List Value) (k : Nat) (h : k < L.length) : (rowE L ex)[k]? = some (.int .i64 (nth L k)) := by
  unfold rowE
  rw [List.getElem?_toArray, List.getElem?_append_left (by simpa using h)]
  simp [nth, h]
theorem At.rowE_cell {w : World} {g : Nat} {L : List Int} {ex : List Value} (h : At w g 3 (rowE L ex)) (k : Nat) (hk : k < L.length) : w.cell? ⟨g, k, none⟩ = some (.int .i64 (nth L k)) := by
  rw [h.cell, rowE_at L ex k hk]
theorem At.rowE_set {w : World} {g : Nat} {L : List Int} {ex : List Value} (h : At w g 3 (rowE L ex)) (k : Nat) (x : Int) (hk : k < L.length) : At (w.setCell ⟨g, k, none⟩ (.int .i64 x)) g 3 (rowE (L.set k x) ex) := by
  have := h.set k (.int .i64 x)
  rwa [Go.Proofs.Ytdploccpobpjjaa.rowE_set L ex k x hk] at this
theorem own_rowE {w : World} {base : Nat} {v : Value} {L : List Int} (h : w.ownsRow base 3 1 v L.length (L.map (Value.int .i64))) (h1 : 1 ≤ L.length) :
    ∃ g c ex, v = .slice (some ⟨g, 0, none⟩) L.length c ∧ base ≤ g ∧ L.length ≤ c ∧ c ≤ maxLen ∧ L.length + ex.length = c ∧ At w g 3 (rowE L ex) := by
  rcases h.2 with ⟨_, h0⟩ | ⟨g, cap, cur, rfl, hb, hg, hc, hm, hs, ht⟩
  · omega
  · refine ⟨g, cap, cur.toList.drop (L.length * 1), rfl, hb, hc, hm, ?_, ?_⟩
    · have e : cur.toList.length = cap := by simpa using hs
      simp [e]; omega
    · unfold At rowE
      rw [hg]
      congr 2
      rw [← ht, List.take_append_drop, Array.toArray_toList]
theorem rowE_own {w : World} {base g c : Nat} {L : List Int} {ex : List Value} (hb : base ≤ g) (hc : L.length ≤ c) (hm : c ≤ maxLen) (he : L.length + ex.length = c) (h : At w g 3 (rowE L ex)) :
    w.ownsRow base 3 1 (.slice (some ⟨g, 0, none⟩) L.length c) L.length (L.map (Value.int .i64)) :=
  ⟨by simp, .inr ⟨g, c, rowE L ex, rfl, hb, h, hc, hm, by simp [rowE]; omega, by simp [rowE]⟩⟩
/-- What withCorner returns. -/
def WCo (n : Nat) (K : List Int) (w : World) (e : Ending) (w' : World) : Prop := ∃ b c', e = .returned (.slice (some ⟨b, 0, none⟩) (n + 1) c') ∧ n + 1 ≤ c' ∧ RdI w' (.slice (some ⟨b, 0, none⟩) (n + 1) c') K ∧ Keeps w w'
theorem RdI_own {w : World} {base b c n : Nat} {L : List Int} (h : w.ownsRow base 3 1 (.slice (some ⟨b, 0, none⟩) n c) n (L.map (Value.int .i64))) (hl : L.length = n) (hm : n ≤ 1000) : RdI w (.slice (some ⟨b, 0, none⟩) n c) L := by
  subst hl
  rcases Nat.eq_zero_or_pos L.length with h0 | h0
  · exact ⟨_, c, rfl, by unfold maxLen; omega, fun k hk => by omega⟩
  · obtain ⟨g, cap, hv, hb, _, _, _, hc⟩ := own_form h h0
    cases hv
    exact ⟨_, c, rfl, by unfold maxLen; omega, fun k hk => ⟨_, 0, .int .i64 (nth L k), rfl, by rw [Nat.zero_add]; exact hc k _ (by simp [nth, List.getElem?_eq_getElem hk]), rfl⟩⟩
theorem insert_w (v : Value) (L : List Int) (n : Nat) (x : Int) (hn : L.length = n) (h1 : 1 ≤ n) (h2 : n ≤ 15) (w w1 : World) (hown : w1.ownsRow w.heap.size 3 1 v n (L.map (Value.int .i64))) (hk : Keeps w w1) :
    Calls Try.prog 32 #[v, .int .i64 0, .slice (some ⟨w1.heap.size, 0, none⟩) 1 1] (w1.alloc (.cells #[.int .i64 x] 3)) (WCo n (x :: L) w) := by
  subst hn
  obtain ⟨g, c, rfl, hg1, hg2, _⟩ := own_form hown (by omega)
  refine (insert_c w.heap.size g c L x w1.heap.size h1 (by omega) _ (own_later hown (Keeps.alloc (Below.refl _ _) _)) (At.new _ _ _) (by omega)).mono ?_
  rintro e w' ⟨b, c', rfl, hc', hrd, hh⟩
  refine ⟨b, c', rfl, hc', hrd, ?_⟩
  exact ((Holds.of_below (Keeps.next hk (Keeps.alloc (Below.refl _ _) _))).trans2 (hh.mono (K' := fun r => r < w.heap.size) (fun r _ h => by omega)) (fun r _ h => h)).below (Nat.le_refl _)
theorem corL_0 (L : List Int) : corL L 0 = 0 :: L.map (· + 1) := by simp [corL]
theorem corL_1 (L : List Int) : corL L 1 = (L.length : Int) :: L := by simp [corL]
theorem corL_2 (L : List Int) : corL L 2 = L.map (· + 1) ++ [0] := by simp [corL]
theorem corL_3 (L : List Int) : corL L 3 = L ++ [(L.length : Int)] := by simp [corL]
set_option maxHeartbeats 1000000 in
set_option maxRecDepth 100000 in
theorem withCorner_1 (v0 : Value) (L : List Int) (n : Nat) (hn : L.length = n) (h1 : 1 ≤ n) (h2 : n ≤ 15) (w : World) (hv : RdI w v0 L) :
    Calls Try.prog 22 #[v0, .int .i64 1] w (WCo n (corL L 1) w) := by
  obtain ⟨A, c0, rfl, hm, hcs⟩ := id hv
  rw [hn] at hv ⊢
  have hcl := clone_w (.slice A n c0) L (by omega) (by omega) w hv
  rw [hn] at hcl
  have hins := fun x v w1 => insert_w v L n x hn h1 h2 w w1
  have Hn := Lib.hid hn
  rw [corL_1, hn]
  clear hm hcs hn
  go_enter Try.func22, Try.ntmps22
  go_wp2_with (first
    | (go_at_call 31; refine hcl.mono ?_; rintro e w1 ⟨v, rfl, hown, hk⟩)
    | (go_at_call 32; refine (hins _ _ _ hown hk).mono ?_; rintro e w2 ⟨b, c', rfl, hc', hrd, hk2⟩))
  go_ret
  exact ⟨b, c', rfl, hc', hrd, hk2⟩
theorem app_end {w w1 w4 : World} {v v' : Value} {n : Nat} {L : List Int} {x : Int} {row : Option Nat} (hn : L.length = n) (h2 : n ≤ 15) (hown : w1.ownsRow w.heap.size 3 1 v n (L.map (Value.int .i64))) (hk : Keeps w w1)
    (hown4 : w4.ownsRow w.heap.size 3 1 v' (n + 1) (L.map (Value.int .i64) ++ [.int .i64 x])) (hgrow4 : (w1.alloc (.cells #[.int .i64 x] 3)).grownBy w4 row) (hr : ∀ g, row = some g → w.heap.size ≤ g) (hs : w.heap.size ≤ w1.heap.size) : WCo n (L ++ [x]) w (.returned v') w4 := by
  obtain ⟨g, c, rfl, hg1, hg2, hc, _, _⟩ := own_form hown4 (by omega)
  refine ⟨g, c, rfl, hc, RdI_own (by rw [List.map_append]; exact hown4) (by simp [hn]) (by omega), ?_⟩
  exact (Keeps.next hk (Keeps.alloc (Below.refl _ _) _)).grown hgrow4 (by simp; omega) hr
theorem app_cells {w1 : World} {x : Int} : ∀ (j : Nat) (u : Value), [Value.int .i64 x][j]? = some u → (w1.alloc (.cells #[.int .i64 x] 3)).cell? ((⟨w1.heap.size, 0, none⟩ : Addr).add j) = some u := by
  intro j u hu
  have hj : j = 0 := by have := (List.getElem?_eq_some_iff.1 hu).1; simpa using this
  subst hj
  exact ((At.new w1 3 #[.int .i64 x]).cell 0).trans hu
set_option maxHeartbeats 1000000 in
set_option maxRecDepth 100000 in
theorem withCorner_3 (v0 : Value) (L : List Int) (n : Nat) (hn : L.length = n) (h1 : 1 ≤ n) (h2 : n ≤ 15) (w : World) (hv : RdI w v0 L) :
    Calls Try.prog 22 #[v0, .int .i64 3] w (WCo n (corL L 3) w) := by
  obtain ⟨A, c0, rfl, hm, hcs⟩ := id hv
  obtain ⟨i0, hi, hz0, hz1, hz2⟩ := info_parts infoI
  rw [hn] at hv ⊢
  have hcl := clone_w (.slice A n c0) L (by omega) (by omega) w hv
  rw [hn] at hcl
  have Hn := Lib.hid hn
  rw [corL_3, hn]
  clear hm hcs hn
  go_enter Try.func22, Try.ntmps22
  go_wp2_with (first
    | (go_at_call 31; refine hcl.mono ?_; rintro e w1 ⟨v, rfl, hown, hk⟩)
    | (at_builtin; refine wpList_append_own _ rfl _ _ 22 rfl w.heap.size 3 i0 _ 1 8 Try.underlying22 hi hz0 hz1 hz2 rfl (by decide) _ n _ rfl (own_later hown (Keeps.alloc (Below.refl _ _) _)) ⟨w1.heap.size, 0, none⟩ 1 1 [.int .i64 n] rfl rfl app_cells (fun u hu => by simp only [List.mem_singleton] at hu; subst hu; rfl) (by unfold maxLen; omega) (by omega) (by simp only [World.size_alloc]; have := hk.size; omega) ?_; intro v' w4 hown4 hgrow4 _))
  go_ret
  exact app_end Hn.out h2 hown hk hown4 hgrow4 (own_base hown) hk.size
set_option maxHeartbeats 1000000 in
set_option maxRecDepth 100000 in
theorem withCorner_0 (v0 : Value) (L : List Int) (n : Nat) (hn : L.length = n) (h1 : 1 ≤ n) (h2 : n ≤ 15) (hlow : ∀ k, k < n → 0 ≤ nth L k ∧ nth L k < 16) (w : World) (hv : RdI w v0 L) :
    Calls Try.prog 22 #[v0, .int .i64 0] w (WCo n (corL L 0) w) := by
  obtain ⟨A, c0, rfl, hm, hcs⟩ := id hv
  rw [hn] at hv ⊢
  have hcl := clone_w (.slice A n c0) L (by omega) (by omega) w hv
  rw [hn] at hcl
  have hins := fun x v w1 => insert_w v (L.map (· + 1)) n x (by simp [hn]) h1 h2 w w1
  rw [corL_0]
  clear hm hcs
  go_enter Try.func22, Try.ntmps22
  go_wp2_with (go_at_call 31; refine hcl.mono ?_; rintro e w1 ⟨v, rfl, hown, hk⟩; subst hn; obtain ⟨g, c, ex, rfl, hg, hc1, hc2, hc3, hat⟩ := own_rowE hown h1)
  go_loopw [22] (fun i wr => ∃ k : Nat, k ≤ L.length ∧ i = .int .i64 k ∧ At wr g 3 (rowE (incK L k) ex) ∧ Keeps w wr) (fun i _ => L.length - (intOf i).toNat)
  case atStart => exact ⟨0, Nat.zero_le _, rfl, by rw [incK_zero]; exact hat, hk⟩
  case round =>
    obtain ⟨k, hk', rfl, hat', hb⟩ := hrel
    have Hhat := Lib.hid hat
    clear hat hown
    by_cases hlt : k < L.length
    · obtain ⟨hx0, hx1⟩ := hlow k hlt
      have c1 := hat'.rowE_cell k (by rw [incK_length]; exact hlt)
      rw [incK_nth L k hlt] at c1
      have f1 := hat'.frozen k
      have Hat : Hid (∀ x, nth L k = x → At (wr.setCell ⟨g, k, none⟩ (.int .i64 (x + 1))) g 3 (rowE (incK L (k + 1)) ex)) := Lib.hid (fun x hx => by
        have := hat'.rowE_set k (nth L k + 1) (by rw [incK_length]; exact hlt)
        rw [incK_succ L k hlt] at this
        rw [← hx]; exact this)
      clear hat' hlow hcl hins hv
      obtain ⟨x, hx⟩ : ∃ x, nth L k = x := ⟨_, rfl⟩
      have Hat2 := Lib.hid (Hat.out x hx)
      rw [hx] at hx0 hx1 c1
      clear Hat hx
      have q1 : IntKind.i64.wrap (x + 1) = x + 1 := by rw [IntWalk.i64_in _ (by omega)]
      go_wp2_with fail
      go_roundw
      case rel => exact ⟨k + 1, by omega, by go_num, Hat2.out, hb.setCell hg _⟩
      case measure => simp [intOf]; omega
    · obtain rfl : k = L.length := by omega
      rw [incK_all] at hat'
      have hl2 : (L.map (· + 1)).length = L.length := by simp
      have hown := rowE_own (base := w.heap.size) hg (by rw [hl2]; exact hc1) hc2 (by rw [hl2]; exact hc3) hat'
      rw [hl2] at hown
      clear hl2 hlow hcl hlt
      go_wp2_with (go_at_call 32; refine (hins _ _ _ hown hb).mono ?_; rintro e w2 ⟨b, c', rfl, hc', hrd, hk2⟩)
      go_ret
      exact ⟨b, c', rfl, hc', hrd, hk2⟩
set_option maxHeartbeats 1000000 in
set_option maxRecDepth 100000 in
theorem withCorner_2 (v0 : Value) (L : List Int) (n : Nat) (hn : L.length = n) (h1 : 1 ≤ n) (h2 : n ≤ 15) (hlow : ∀ k, k < n → 0 ≤ nth L k ∧ nth L k < 16) (w : World) (hv : RdI w v0 L) :
    Calls Try.prog 22 #[v0, .int .i64 2] w (WCo n (corL L 2) w) := by
  obtain ⟨A, c0, rfl, hm, hcs⟩ := id hv
  rw [hn] at hv ⊢
  have hcl := clone_w (.slice A n c0) L (by omega) (by omega) w hv
  rw [hn] at hcl
  obtain ⟨i0, hi, hz0, hz1, hz2⟩ := info_parts infoI
  rw [corL_2]
  clear hm hcs
  go_enter Try.func22, Try.ntmps22
  go_wp2_with (go_at_call 31; refine hcl.mono ?_; rintro e w1 ⟨v, rfl, hown, hk⟩; subst hn; obtain ⟨g, c, ex, rfl, hg, hc1, hc2, hc3, hat⟩ := own_rowE hown h1)
  go_loopw [22] (fun i wr => ∃ k : Nat, k ≤ L.length ∧ i = .int .i64 k ∧ At wr g 3 (rowE (incK L k) ex) ∧ Keeps w wr) (fun i _ => L.length - (intOf i).toNat)
  case atStart => exact ⟨0, Nat.zero_le _, rfl, by rw [incK_zero]; exact hat, hk⟩
  case round =>
    obtain ⟨k, hk', rfl, hat', hb⟩ := hrel
    have Hhat := Lib.hid hat
    clear hat hown
    by_cases hlt : k < L.length
    · obtain ⟨hx0, hx1⟩ := hlow k hlt
      have c1 := hat'.rowE_cell k (by rw [incK_length]; exact hlt)
      rw [incK_nth L k hlt] at c1
      have f1 := hat'.frozen k
      have Hat : Hid (∀ x, nth L k = x → At (wr.setCell ⟨g, k, none⟩ (.int .i64 (x + 1))) g 3 (rowE (incK L (k + 1)) ex)) := Lib.hid (fun x hx => by
        have := hat'.rowE_set k (nth L k + 1) (by rw [incK_length]; exact hlt)
        rw [incK_succ L k hlt] at this
        rw [← hx]; exact this)
      clear hat' hlow hcl hv
      obtain ⟨x, hx⟩ : ∃ x, nth L k = x := ⟨_, rfl⟩
      have Hat2 := Lib.hid (Hat.out x hx)
      rw [hx] at hx0 hx1 c1
      clear Hat hx
      have q1 : IntKind.i64.wrap (x + 1) = x + 1 := by rw [IntWalk.i64_in _ (by omega)]
      go_wp2_with fail
      go_roundw
      case rel => exact ⟨k + 1, by omega, by go_num, Hat2.out, hb.setCell hg _⟩
      case measure => simp [intOf]; omega
    · obtain rfl : k = L.length := by omega
      rw [incK_all] at hat'
      have hl2 : (L.map (· + 1)).length = L.length := by simp
      have hown := rowE_own (base := w.heap.size) hg (by rw [hl2]; exact hc1) hc2 (by rw [hl2]; exact hc3) hat'
      rw [hl2] at hown
      clear hl2 hlow hcl hlt
      go_wp2_with (at_builtin; refine wpList_append_own _ rfl _ _ 22 rfl w.heap.size 3 i0 _ 1 8 Try.underlying22 hi hz0 hz1 hz2 rfl (by decide) _ L.length _ rfl (own_later hown (Keeps.alloc (Below.refl _ _) _)) ⟨wr.heap.size, 0, none⟩ 1 1 [.int .i64 0] rfl rfl app_cells (fun u hu => by simp only [List.mem_singleton] at hu; subst hu; rfl) (by unfold maxLen; omega) (by omega) (by simp only [World.size_alloc]; have := hb.size; omega) ?_; intro v' w4 hown4 hgrow4 _)
      go_ret
      exact app_end (L := L.map (· + 1)) (by simp) h2 hown hb hown4 hgrow4 (own_base hown) hb.size
theorem withCorner_c (v0 : Value) (L : List Int) (n q : Nat) (hq : q < 4) (hn : L.length = n) (h1 : 1 ≤ n) (h2 : n ≤ 15) (hlow : ∀ k, k < n → 0 ≤ nth L k ∧ nth L k < 16) (w : World) (hv : RdI w v0 L) :
    Calls Try.prog 22 #[v0, .int .i64 q] w (WCo n (corL L q) w) := by
  obtain rfl | rfl | rfl | rfl : q = 0 ∨ q = 1 ∨ q = 2 ∨ q = 3 := by omega
  · exact withCorner_0 v0 L n hn h1 h2 hlow w hv
  · exact withCorner_1 v0 L n hn h1 h2 w hv
  · exact withCorner_2 v0 L n hn h1 h2 hlow w hv
  · exact withCorner_3 v0 L n hn h1 h2 w hv
end Go.Proofs.Ytdploccpobpjjaa
