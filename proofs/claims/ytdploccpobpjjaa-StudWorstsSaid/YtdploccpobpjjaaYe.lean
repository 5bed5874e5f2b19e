/- The walk of the reference's Cornered. -/
import Derived.Test.YtdploccpobpjjaaYd
namespace Go.Proofs.Ytdploccpobpjjaa
open Go.RowKit Go.Shelf
set_option linter.unusedVariables false
set_option linter.unusedSimpArgs false

/-- A new row of one, and what is appended to it. -/
theorem new_own (w1 : World) (base : Nat) (x : Int) (h : base ≤ w1.heap.size) : (w1.alloc (.cells #[.int .i64 x] 3)).ownsRow base 3 1 (.slice (some ⟨w1.heap.size, 0, none⟩) 1 1) 1 [.int .i64 x] :=
  ⟨rfl, .inr ⟨w1.heap.size, 1, #[.int .i64 x], rfl, h, At.new w1 _ _, Nat.le_refl _, by unfold maxLen; omega, rfl, rfl⟩⟩
theorem own_cells {w : World} {base g c n : Nat} {L : List Int} (h : w.ownsRow base 3 1 (.slice (some ⟨g, 0, none⟩) n c) n (L.map (Value.int .i64))) (hn : 0 < n) {w' : World} (hk : Keeps w w') : ∀ (j : Nat) (u : Value), (L.map (Value.int .i64))[j]? = some u → w'.cell? ((⟨g, 0, none⟩ : Addr).add j) = some u := by
  obtain ⟨g', cap, hv, _, _, _, _, hc⟩ := own_form h hn
  cases hv
  intro j u hu
  rw [show ((⟨g, 0, none⟩ : Addr).add j) = ⟨g, j, none⟩ from by unfold Addr.add; split <;> simp_all]
  exact cell_keep (hc j u hu) hk
theorem ins_end {w w1 w4 : World} {v' : Value} {n : Nat} {L : List Int} {x : Int} {row : Option Nat} (hn : L.length = n) (h2 : n ≤ 15) (hk : Keeps w w1)
    (hown4 : w4.ownsRow w.heap.size 3 1 v' (1 + n) ([.int .i64 x] ++ L.map (Value.int .i64))) (hgrow4 : (w1.alloc (.cells #[.int .i64 x] 3)).grownBy w4 row) (hr : ∀ g, row = some g → w.heap.size ≤ g) (hs : w.heap.size ≤ w1.heap.size) : WCo n (x :: L) w (.returned v') w4 := by
  rw [Nat.add_comm 1 n] at hown4
  obtain ⟨g, c, rfl, hg1, hg2, hc, _, _⟩ := own_form hown4 (by omega)
  refine ⟨g, c, rfl, hc, RdI_own (by rw [List.map_cons]; exact hown4) (by simp [hn]) (by omega), ?_⟩
  exact (Keeps.next hk (Keeps.alloc (Below.refl _ _) _)).grown hgrow4 (by simp; omega) hr
theorem rdi_cellsK {w w' : World} {b o n c : Nat} {L : List Int} (hv : RdI w (.slice (some ⟨b, o, none⟩) n c) L) (hk : Keeps w w') : ∀ (j : Nat) (u : Value), (L.map (Value.int .i64))[j]? = some u → w'.cell? ((⟨b, o, none⟩ : Addr).add j) = some u := by
  obtain ⟨_, _, e0, -, hcs⟩ := hv
  cases e0
  intro j u hu
  have hj := (List.getElem?_eq_some_iff.1 hu).1
  rw [List.length_map] at hj
  obtain ⟨b', o', x, e1, e2, rfl⟩ := hcs j hj
  cases e1
  rw [show ((⟨b, o, none⟩ : Addr).add j) = ⟨b, o + j, none⟩ from by unfold Addr.add; split <;> simp_all, cell_keep e2 hk, ← hu]
  simp [nth, hj]
set_option maxHeartbeats 1000000 in
set_option maxRecDepth 100000 in
theorem rcornered_1 (b0 o0 c0 : Nat) (L : List Int) (n : Nat) (hn : L.length = n) (h1 : 1 ≤ n) (h2 : n ≤ 15) (w : World) (hv : RdI w (.slice (some ⟨b0, o0, none⟩) n c0) L) :
    Calls Try.prog 9 #[.slice (some ⟨b0, o0, none⟩) n c0, .int .i64 1] w (WCo n (corL L 1) w) := by
  obtain ⟨i0, hi, hz0, hz1, hz2⟩ := info_parts infoI
  have Hcell := Lib.hid (rdi_cellsK hv (Below.refl _ _))
  have Hlen := Lib.hid (show (L.map (Value.int .i64)).length = n * 1 by simp [hn])
  have H1 : Hid (∀ u ∈ L.map (Value.int .i64), u.oneCell' = true) := Lib.hid (fun u hu => by obtain ⟨x, _, rfl⟩ := List.mem_map.1 hu; rfl)
  have Hn := Lib.hid hn
  rw [corL_1, hn]
  clear hn hv
  go_enter Try.func9, Try.ntmps9
  go_wp2_with (first
    | (at_builtin; refine wpList_append_own _ rfl (.tmp 12) (.tmp 13) 22 rfl w.heap.size 3 i0 _ 1 8 Try.underlying22 hi hz0 hz1 hz2 rfl (by decide) _ 0 [] rfl (World.ownsRow_nil _ _ _ _) ⟨b0, o0, none⟩ n c0 _ rfl Hlen.out Hcell.out H1.out (by unfold maxLen; omega) (by omega) (Nat.le_refl _) ?_; intro v w1 hown hgrow _; rw [Nat.zero_add, List.nil_append] at hown; have hk : Keeps w w1 := (Below.refl _ _).grown hgrow (Nat.le_refl _) (fun r hr => by cases hr); have hs := hk.size; obtain ⟨g, c, rfl, hg1, hg2, hcc, _, _⟩ := own_form hown h1)
    | (at_builtin; refine wpList_append_own _ rfl (.tmp 34) (.tmp 35) 22 rfl w.heap.size 3 i0 _ 1 8 Try.underlying22 hi hz0 hz1 hz2 rfl (by decide) _ 1 _ rfl (new_own w1 _ _ hs) ⟨g, 0, none⟩ n c _ rfl Hlen.out (own_cells hown h1 (Keeps.alloc (Below.refl _ _) _)) H1.out (by unfold maxLen; omega) (by omega) (by simp only [World.size_alloc]; omega) ?_; intro v' w4 hown4 hgrow4 _))
  go_ret
  exact ins_end Hn.out h2 hk hown4 hgrow4 (own_base (new_own w1 w.heap.size 0 hs)) hs
set_option maxHeartbeats 1000000 in
set_option maxRecDepth 100000 in
theorem rcornered_3 (b0 o0 c0 : Nat) (L : List Int) (n : Nat) (hn : L.length = n) (h1 : 1 ≤ n) (h2 : n ≤ 15) (w : World) (hv : RdI w (.slice (some ⟨b0, o0, none⟩) n c0) L) :
    Calls Try.prog 9 #[.slice (some ⟨b0, o0, none⟩) n c0, .int .i64 3] w (WCo n (corL L 3) w) := by
  obtain ⟨i0, hi, hz0, hz1, hz2⟩ := info_parts infoI
  have Hcell := Lib.hid (rdi_cellsK hv (Below.refl _ _))
  have Hlen := Lib.hid (show (L.map (Value.int .i64)).length = n * 1 by simp [hn])
  have H1 : Hid (∀ u ∈ L.map (Value.int .i64), u.oneCell' = true) := Lib.hid (fun u hu => by obtain ⟨x, _, rfl⟩ := List.mem_map.1 hu; rfl)
  have Hn := Lib.hid hn
  rw [corL_3, hn]
  clear hn hv
  go_enter Try.func9, Try.ntmps9
  go_wp2_with (first
    | (at_builtin; refine wpList_append_own _ rfl (.tmp 12) (.tmp 13) 22 rfl w.heap.size 3 i0 _ 1 8 Try.underlying22 hi hz0 hz1 hz2 rfl (by decide) _ 0 [] rfl (World.ownsRow_nil _ _ _ _) ⟨b0, o0, none⟩ n c0 _ rfl Hlen.out Hcell.out H1.out (by unfold maxLen; omega) (by omega) (Nat.le_refl _) ?_; intro v w1 hown hgrow _; rw [Nat.zero_add, List.nil_append] at hown; have hk : Keeps w w1 := (Below.refl _ _).grown hgrow (Nat.le_refl _) (fun r hr => by cases hr); have hs := hk.size; obtain ⟨g, c, rfl, hg1, hg2, hcc, _, _⟩ := own_form hown h1)
    | (at_builtin; refine wpList_append_own _ rfl (.tmp 37) (.tmp 39) 22 rfl w.heap.size 3 i0 _ 1 8 Try.underlying22 hi hz0 hz1 hz2 rfl (by decide) _ n _ rfl (own_later hown (Keeps.alloc (Below.refl _ _) _)) ⟨w1.heap.size, 0, none⟩ 1 1 [.int .i64 n] rfl rfl app_cells (fun u hu => by simp only [List.mem_singleton] at hu; subst hu; rfl) (by unfold maxLen; omega) (by omega) (by simp only [World.size_alloc]; omega) ?_; intro v' w4 hown4 hgrow4 _))
  go_ret
  exact app_end Hn.out h2 hown hk hown4 hgrow4 (own_base hown) hs
set_option maxHeartbeats 1000000 in
set_option maxRecDepth 100000 in
theorem rcornered_0 (b0 o0 c0 : Nat) (L : List Int) (n : Nat) (hn : L.length = n) (h1 : 1 ≤ n) (h2 : n ≤ 15) (hlow : ∀ k, k < n → 0 ≤ nth L k ∧ nth L k < 16) (w : World) (hv : RdI w (.slice (some ⟨b0, o0, none⟩) n c0) L) :
    Calls Try.prog 9 #[.slice (some ⟨b0, o0, none⟩) n c0, .int .i64 0] w (WCo n (corL L 0) w) := by
  obtain ⟨i0, hi, hz0, hz1, hz2⟩ := info_parts infoI
  have Hcell := Lib.hid (rdi_cellsK hv (Below.refl _ _))
  have Hlen := Lib.hid (show (L.map (Value.int .i64)).length = n * 1 by simp [hn])
  have Hlen2 := Lib.hid (show ((L.map (· + 1)).map (Value.int .i64)).length = n * 1 by simp [hn])
  have H1 : Hid (∀ u ∈ L.map (Value.int .i64), u.oneCell' = true) := Lib.hid (fun u hu => by obtain ⟨x, _, rfl⟩ := List.mem_map.1 hu; rfl)
  have H2 : Hid (∀ u ∈ (L.map (· + 1)).map (Value.int .i64), u.oneCell' = true) := Lib.hid (fun u hu => by obtain ⟨x, _, rfl⟩ := List.mem_map.1 hu; rfl)
  rw [corL_0]
  clear hv
  go_enter Try.func9, Try.ntmps9
  go_wp2_with (at_builtin; refine wpList_append_own _ rfl (.tmp 12) (.tmp 13) 22 rfl w.heap.size 3 i0 _ 1 8 Try.underlying22 hi hz0 hz1 hz2 rfl (by decide) _ 0 [] rfl (World.ownsRow_nil _ _ _ _) ⟨b0, o0, none⟩ n c0 _ rfl Hlen.out Hcell.out H1.out (by unfold maxLen; omega) (by omega) (Nat.le_refl _) ?_; intro v w1 hown hgrow _; rw [Nat.zero_add, List.nil_append] at hown; have hk : Keeps w w1 := (Below.refl _ _).grown hgrow (Nat.le_refl _) (fun r hr => by cases hr); clear hgrow; subst hn; obtain ⟨g, c, ex, rfl, hg, hc1, hc2, hc3, hat⟩ := own_rowE hown h1)
  go_loopw [8] (fun i wr => ∃ k : Nat, k ≤ L.length ∧ i = .int .i64 k ∧ At wr g 3 (rowE (incK L k) ex) ∧ Keeps w wr) (fun i _ => L.length - (intOf i).toNat)
  case atStart => exact ⟨0, Nat.zero_le _, rfl, by rw [incK_zero]; exact hat, hk⟩
  case round =>
    obtain ⟨k, hk', rfl, hat', hb⟩ := hrel
    have Hhat := Lib.hid hat
    clear hat hown
    by_cases hlt : k < L.length
    · obtain ⟨hx0, hx1⟩ := hlow k hlt
      have c1 := hat'.rowE_cell k (by rw [incK_length]; exact hlt)
      rw [incK_nth L k hlt] at c1
      have f1 := hat'.frozen k
      have Hat : Hid (∀ x, nth L k = x → At (wr.setCell ⟨g, k, none⟩ (.int .i64 (x + 1))) g 3 (rowE (incK L (k + 1)) ex)) := Lib.hid (fun x hx => by
        have := hat'.rowE_set k (nth L k + 1) (by rw [incK_length]; exact hlt)
        rw [incK_succ L k hlt] at this
        rw [← hx]; exact this)
      clear hat' hlow
      obtain ⟨x, hx⟩ : ∃ x, nth L k = x := ⟨_, rfl⟩
      have Hat2 := Lib.hid (Hat.out x hx)
      rw [hx] at hx0 hx1 c1
      clear Hat hx
      have q1 : IntKind.i64.wrap (x + 1) = x + 1 := by rw [IntWalk.i64_in _ (by omega)]
      go_wp2_with fail
      go_roundw
      case rel => exact ⟨k + 1, by omega, by go_num, Hat2.out, hb.setCell hg _⟩
      case measure => simp [intOf]; omega
    · obtain rfl : k = L.length := by omega
      rw [incK_all] at hat'
      have hl2 : (L.map (· + 1)).length = L.length := by simp
      have hown := rowE_own (base := w.heap.size) hg (by rw [hl2]; exact hc1) hc2 (by rw [hl2]; exact hc3) hat'
      rw [hl2] at hown
      have hs := hb.size
      clear hl2 hlow hlt
      go_wp2_with (at_builtin; refine wpList_append_own _ rfl (.tmp 34) (.tmp 35) 22 rfl w.heap.size 3 i0 _ 1 8 Try.underlying22 hi hz0 hz1 hz2 rfl (by decide) _ 1 _ rfl (new_own wr _ _ hs) ⟨g, 0, none⟩ L.length c _ rfl Hlen2.out (own_cells hown h1 (Keeps.alloc (Below.refl _ _) _)) H2.out (by unfold maxLen; omega) (by omega) (by simp only [World.size_alloc]; omega) ?_; intro v' w4 hown4 hgrow4 _)
      go_ret
      exact ins_end (L := L.map (· + 1)) (by simp) h2 hb hown4 hgrow4 (own_base (new_own wr w.heap.size 0 hs)) hs
set_option maxHeartbeats 1000000 in
set_option maxRecDepth 100000 in
theorem rcornered_2 (b0 o0 c0 : Nat) (L : List Int) (n : Nat) (hn : L.length = n) (h1 : 1 ≤ n) (h2 : n ≤ 15) (hlow : ∀ k, k < n → 0 ≤ nth L k ∧ nth L k < 16) (w : World) (hv : RdI w (.slice (some ⟨b0, o0, none⟩) n c0) L) :
    Calls Try.prog 9 #[.slice (some ⟨b0, o0, none⟩) n c0, .int .i64 2] w (WCo n (corL L 2) w) := by
  obtain ⟨i0, hi, hz0, hz1, hz2⟩ := info_parts infoI
  have Hcell := Lib.hid (rdi_cellsK hv (Below.refl _ _))
  have Hlen := Lib.hid (show (L.map (Value.int .i64)).length = n * 1 by simp [hn])
  have Hlen2 := Lib.hid (show ((L.map (· + 1)).map (Value.int .i64)).length = n * 1 by simp [hn])
  have H1 : Hid (∀ u ∈ L.map (Value.int .i64), u.oneCell' = true) := Lib.hid (fun u hu => by obtain ⟨x, _, rfl⟩ := List.mem_map.1 hu; rfl)
  have H2 : Hid (∀ u ∈ (L.map (· + 1)).map (Value.int .i64), u.oneCell' = true) := Lib.hid (fun u hu => by obtain ⟨x, _, rfl⟩ := List.mem_map.1 hu; rfl)
  rw [corL_2]
  clear hv
  go_enter Try.func9, Try.ntmps9
  go_wp2_with (at_builtin; refine wpList_append_own _ rfl (.tmp 12) (.tmp 13) 22 rfl w.heap.size 3 i0 _ 1 8 Try.underlying22 hi hz0 hz1 hz2 rfl (by decide) _ 0 [] rfl (World.ownsRow_nil _ _ _ _) ⟨b0, o0, none⟩ n c0 _ rfl Hlen.out Hcell.out H1.out (by unfold maxLen; omega) (by omega) (Nat.le_refl _) ?_; intro v w1 hown hgrow _; rw [Nat.zero_add, List.nil_append] at hown; have hk : Keeps w w1 := (Below.refl _ _).grown hgrow (Nat.le_refl _) (fun r hr => by cases hr); clear hgrow; subst hn; obtain ⟨g, c, ex, rfl, hg, hc1, hc2, hc3, hat⟩ := own_rowE hown h1)
  go_loopw [8] (fun i wr => ∃ k : Nat, k ≤ L.length ∧ i = .int .i64 k ∧ At wr g 3 (rowE (incK L k) ex) ∧ Keeps w wr) (fun i _ => L.length - (intOf i).toNat)
  case atStart => exact ⟨0, Nat.zero_le _, rfl, by rw [incK_zero]; exact hat, hk⟩
  case round =>
    obtain ⟨k, hk', rfl, hat', hb⟩ := hrel
    have Hhat := Lib.hid hat
    clear hat hown
    by_cases hlt : k < L.length
    · obtain ⟨hx0, hx1⟩ := hlow k hlt
      have c1 := hat'.rowE_cell k (by rw [incK_length]; exact hlt)
      rw [incK_nth L k hlt] at c1
      have f1 := hat'.frozen k
      have Hat : Hid (∀ x, nth L k = x → At (wr.setCell ⟨g, k, none⟩ (.int .i64 (x + 1))) g 3 (rowE (incK L (k + 1)) ex)) := Lib.hid (fun x hx => by
        have := hat'.rowE_set k (nth L k + 1) (by rw [incK_length]; exact hlt)
        rw [incK_succ L k hlt] at this
        rw [← hx]; exact this)
      clear hat' hlow
      obtain ⟨x, hx⟩ : ∃ x, nth L k = x := ⟨_, rfl⟩
      have Hat2 := Lib.hid (Hat.out x hx)
      rw [hx] at hx0 hx1 c1
      clear Hat hx
      have q1 : IntKind.i64.wrap (x + 1) = x + 1 := by rw [IntWalk.i64_in _ (by omega)]
      go_wp2_with fail
      go_roundw
      case rel => exact ⟨k + 1, by omega, by go_num, Hat2.out, hb.setCell hg _⟩
      case measure => simp [intOf]; omega
    · obtain rfl : k = L.length := by omega
      rw [incK_all] at hat'
      have hl2 : (L.map (· + 1)).length = L.length := by simp
      have hown := rowE_own (base := w.heap.size) hg (by rw [hl2]; exact hc1) hc2 (by rw [hl2]; exact hc3) hat'
      rw [hl2] at hown
      have hs := hb.size
      clear hl2 hlow hlt
      go_wp2_with (at_builtin; refine wpList_append_own _ rfl (.tmp 37) (.tmp 39) 22 rfl w.heap.size 3 i0 _ 1 8 Try.underlying22 hi hz0 hz1 hz2 rfl (by decide) _ L.length _ rfl (own_later hown (Keeps.alloc (Below.refl _ _) _)) ⟨wr.heap.size, 0, none⟩ 1 1 [.int .i64 0] rfl rfl app_cells (fun u hu => by simp only [List.mem_singleton] at hu; subst hu; rfl) (by unfold maxLen; omega) (by omega) (by simp only [World.size_alloc]; omega) ?_; intro v' w4 hown4 hgrow4 _)
      go_ret
      exact app_end (L := L.map (· + 1)) (by simp) h2 hown hb hown4 hgrow4 (own_base hown) hs
theorem rcornered_c (b0 o0 c0 : Nat) (L : List Int) (n q : Nat) (hq : q < 4) (hn : L.length = n) (h1 : 1 ≤ n) (h2 : n ≤ 15) (hlow : ∀ k, k < n → 0 ≤ nth L k ∧ nth L k < 16) (w : World) (hv : RdI w (.slice (some ⟨b0, o0, none⟩) n c0) L) :
    Calls Try.prog 9 #[.slice (some ⟨b0, o0, none⟩) n c0, .int .i64 q] w (WCo n (corL L q) w) := by
  obtain rfl | rfl | rfl | rfl : q = 0 ∨ q = 1 ∨ q = 2 ∨ q = 3 := by omega
  · exact rcornered_0 b0 o0 c0 L n hn h1 h2 hlow w hv
  · exact rcornered_1 b0 o0 c0 L n hn h1 h2 w hv
  · exact rcornered_2 b0 o0 c0 L n hn h1 h2 hlow w hv
  · exact rcornered_3 b0 o0 c0 L n hn h1 h2 w hv
end Go.Proofs.Ytdploccpobpjjaa
