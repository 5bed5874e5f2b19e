/- The law's tame orders. -/
import Derived.Test.YtdploccpobpjjaaVf
import Derived.Test.YtdploccpobpjjaaVo
namespace Go.Proofs.Ytdploccpobpjjaa
open Go.RowKit
set_option linter.unusedVariables false

theorem ins_ok (L : List Int) (k k0 : Nat) (hl : L.length = k) (ha : L.all (hasB k) = true) (hn : L.Nodup) : (L.take k0 ++ [(k : Int)] ++ L.drop k0).length = k + 1 ∧ (L.take k0 ++ [(k : Int)] ++ L.drop k0).all (hasB (k + 1 : Nat)) = true ∧ (L.take k0 ++ [(k : Int)] ++ L.drop k0).Nodup := by
  have hp : (L.take k0 ++ [(k : Int)] ++ L.drop k0).Perm ((k : Int) :: L) := by
    have h1 : (L.take k0 ++ [(k : Int)]).Perm ((k : Int) :: L.take k0) := List.perm_append_comm
    have h2 := h1.append_right (L.drop k0)
    rw [List.cons_append, List.take_append_drop] at h2
    exact h2
  refine ⟨by rw [hp.length_eq]; simp [hl], ?_, ?_⟩
  · rw [List.all_eq_true]
    intro x hx
    rcases List.mem_cons.1 (hp.mem_iff.1 hx) with rfl | hx
    · exact (hasB_iff _ _).2 (by omega)
    · have := (hasB_iff _ _).1 (List.all_eq_true.1 ha x hx)
      exact (hasB_iff _ _).2 (by omega)
  · rw [hp.nodup_iff, List.nodup_cons]
    refine ⟨fun h => ?_, hn⟩
    have := (hasB_iff _ _).1 (List.all_eq_true.1 ha _ h)
    omega
theorem fits_nth (l : List Int) (hf : fits l) (k : Nat) (h : k < l.length) : (Lit.int .i64 (nth l k)).wf = true := hf _ (nth_mem l k h)
/-- The cells from a place on. -/
theorem cells_from {X : World} {b k0 k : Nat} {L : List Int} (hL : L.length = k) (hk0 : k0 ≤ k) (hc : ∀ j, j < k → X.cell? ⟨b, j, none⟩ = some (.int .i64 (nth L j))) (o : Nat) (ho : k0 < k → o = k0) :
    ∀ j u, ((L.drop k0).map (Value.int .i64))[j]? = some u → X.cell? ((⟨b, o, none⟩ : Addr).add j) = some u := by
  intro j u hu
  have hj := (List.getElem?_eq_some_iff.1 hu).1
  rw [List.length_map, List.length_drop] at hj
  obtain rfl := ho (by omega)
  rw [show ((⟨b, o, none⟩ : Addr).add j) = ⟨b, o + j, none⟩ from by unfold Addr.add; split <;> simp_all, hc _ (by omega), ← hu]
  simp [nth, show o + j < L.length by omega]
theorem cells_to {X : World} {b k0 k : Nat} {L : List Int} (hL : L.length = k) (hk0 : k0 ≤ k) (hc : ∀ j, j < k → X.cell? ⟨b, j, none⟩ = some (.int .i64 (nth L j))) :
    ∀ j u, ((L.take k0).map (Value.int .i64))[j]? = some u → X.cell? ((⟨b, 0, none⟩ : Addr).add j) = some u := by
  intro j u hu
  have hj := (List.getElem?_eq_some_iff.1 hu).1
  rw [List.length_map, List.length_take] at hj
  rw [show ((⟨b, 0, none⟩ : Addr).add j) = ⟨b, j, none⟩ from by unfold Addr.add; split <;> simp_all, hc _ (by omega), ← hu]
  simp [nth, show j < L.length by omega, show j < k0 by omega]
theorem tame_next {w wr w4 : World} {L : List Int} {k k0 n : Nat} {v3 : Value} {xs : List Value} (hown : w4.ownsRow wr.heap.size 3 1 v3 n xs) (hL : L.length = k) (hk0 : k0 ≤ k) (hn : n = k + 1)
    (hxs : xs = (L.take k0 ++ [(k : Int)] ++ L.drop k0).map (Value.int .i64)) (hb : Keeps w wr) (hk : Holds (fun r => r < wr.heap.size) wr w4) :
    ∃ b' c', v3 = .slice (some ⟨b', 0, none⟩) (k + 1 : Nat) c' ∧ k + 1 ≤ c' ∧ c' ≤ maxLen ∧ (∀ j, j < k + 1 → w4.cell? ⟨b', j, none⟩ = some (.int .i64 (nth (L.take k0 ++ [(k : Int)] ++ L.drop k0) j))) ∧ Keeps w w4 := by
  subst hn hxs
  obtain ⟨g, cap, rfl, _, _, h1, h2, hc⟩ := own_form hown (by omega)
  refine ⟨g, cap, rfl, h1, h2, fun j hj => ?_, Keeps.next hb (hk.below (Nat.le_refl _))⟩
  have hlen : (L.take k0 ++ [(k : Int)] ++ L.drop k0).length = k + 1 := by simp; omega
  generalize (L.take k0 ++ [(k : Int)] ++ L.drop k0) = M at *
  exact hc j _ (by simp [nth, List.getElem?_eq_getElem (show j < M.length by omega)])
/-- A tame order. -/
def Tame (most : Nat) (w : World) (e : Ending) (w' : World) : Prop := ∃ b c L, e = .returned (.slice (some ⟨b, 0, none⟩) L.length c) ∧ L.length ≤ c ∧ RdI w' (.slice (some ⟨b, 0, none⟩) L.length c) L ∧ ordB L = true ∧ L.length ≤ most ∧ Keeps w w'
set_option maxHeartbeats 4000000 in
set_option maxRecDepth 100000 in
theorem tame_c (n0 : Int) (v : Value) (l : List Int) (most : Nat) (hm1 : 1 ≤ most) (hm16 : most ≤ 16) (hn0 : (Lit.int .i64 n0).wf = true) (w : World) (hv : RdI w v l) (hf : fits l) :
    Calls Try.prog 6 #[.int .i64 n0, v, .int .i64 most] w (Tame most w) := by
  obtain ⟨A, cv, rfl, hm, hcs⟩ := id hv
  unfold maxLen at hm
  obtain ⟨i0, hi, hz0, hz1, hz2⟩ := info_parts infoI
  have hmod := fun x => mod_c n0 most hn0 (by omega) (by omega) x
  obtain ⟨m0, m1⟩ := modN_in n0 most (by omega)
  generalize modN n0 most = mi at *
  obtain ⟨mn, rfl⟩ := Int.eq_ofNat_of_zero_le m0
  have hmn : mn < most := by omega
  have Hf := Lib.hid (fits_nth l hf)
  clear hn0 m0 m1 hf
  go_enter Try.func6, Try.ntmps6
  go_wp2_with (go_at_call 19; refine (hmod _).mono ?_; rintro e w1 ⟨rfl, rfl⟩)
  clear hmod
  go_outline
  go_loopw [7, 8] (fun s i wr => ∃ (k b c : Nat) (L : List Int), k ≤ mn + 1 ∧ i = .int .i64 k ∧ s = .slice (some ⟨b, 0, none⟩) k c ∧ k ≤ c ∧ c ≤ maxLen ∧ L.length = k ∧ L.all (hasB k) = true ∧ L.Nodup ∧ (∀ j, j < k → wr.cell? ⟨b, j, none⟩ = some (.int .i64 (nth L j))) ∧ Keeps w wr) (fun _ i _ => 17 - (intOf i).toNat)
  case atStart => exact ⟨0, _, _, [], Nat.zero_le _, rfl, rfl, Nat.le_refl _, by unfold maxLen; omega, rfl, rfl, by simp, fun j h => by omega, Keeps.alloc (Below.refl _ _) _⟩
  case round =>
    obtain ⟨k, b, c, L, hk, rfl, rfl, hkc, hcm, hL, ha, hn, hc, hb⟩ := hrel
    unfold maxLen at hcm
    have hwr := hb.size
    by_cases hlt : k < mn + 1
    · by_cases hin : k < l.length
      · obtain ⟨bl, ol, ul, rfl, hcl0, rfl⟩ := hcs k hin
        have hcl := cell_keep hcl0 hb
        have hmo := fun x => mod_c (nth l k) (k + 1) (Hf.out k hin) (by omega) (by omega) x
        obtain ⟨o0, o1⟩ := modN_in (nth l k) (k + 1) (by omega)
        generalize modN (nth l k) (k + 1) = kk at *
        obtain ⟨k0, rfl⟩ := Int.eq_ofNat_of_zero_le o0
        have hk0 : k0 ≤ k := by omega
        clear hcs hv hcl0 o0 o1
        have Hl1 := Lib.hid (show ((L.take k0).map (Value.int .i64)).length = k0 * 1 by rw [List.length_map, List.length_take]; omega)
        have Hc1 := Lib.hid (cells_to (k0 := k0) hL (by omega) hc)
        have hk0I : ((k0 : Nat) : Int) ≤ k := by omega
        have hk0c : ((k0 : Nat) : Int) ≤ c := by omega
        have Ha := Lib.hid ha
        have Hc := Lib.hid hc
        clear hc ha
        by_cases hkc2 : k0 = c
        · obtain rfl : k0 = k := by omega
          obtain rfl : k0 = c := hkc2
          have Hl2 := Lib.hid (show ((L.drop k0).map (Value.int .i64)).length = (0) * 1 by rw [List.length_map, List.length_drop]; omega)
          go_wp2_with (
            first
            | (go_at_call 19; refine (hmo _).mono ?_; rintro e w1 ⟨rfl, rfl⟩)
            | (at_builtin; (refine wpList_append_own _ rfl (.tmp 33) (.tmp 36) 22 rfl wr.heap.size 3 i0 _ 1 8 Try.underlying22 hi hz0 hz1 hz2 rfl (by decide) _ 0 [] rfl (World.ownsRow_nil _ _ _ _) ⟨b, 0, none⟩ k0 k0 ((L.take k0).map (Value.int .i64)) rfl Hl1.out Hc1.out (fun u hu => by obtain ⟨x, _, rfl⟩ := List.mem_map.1 hu; rfl) (by unfold maxLen; omega) (by omega) (Nat.le_refl _) ?_; intro v1 w2 hown1 hgrow1 _; have hk1 : Holds (fun r => r < wr.heap.size) wr w2 := (Holds.refl _ wr).grown hgrow1 (fun r hr => by cases hr); have hk1s := hk1.size))
            | (at_builtin; refine wpList_append_own _ rfl (.tmp 38) (.tmp 40) 22 rfl wr.heap.size 3 i0 _ 1 8 Try.underlying22 hi hz0 hz1 hz2 rfl (by decide) _ (0 + k0) ([] ++ (L.take k0).map (Value.int .i64)) rfl (hown1.alloc _) _ 1 1 [.int .i64 k0] rfl rfl (new_cells _ _ _ _ (by simp)) (by simp [Value.oneCell']) (by unfold maxLen; omega) (by omega) (by simp; omega) ?_; intro v2 w3 hown2 hgrow2 _; have hk2 : Holds (fun r => r < wr.heap.size) wr w3 := (hk1.alloc _).grown hgrow2 (fun r hr => by have := own_base hown1 r hr; omega); have hk2s := hk2.size; have hq2 := hk2.below (Nat.le_refl _); obtain ⟨b2, c2, rfl, h2b, h2lt, h2c, h2m, _⟩ := own_form hown2 (by omega); have hown3 := hown2; have hk3 := hk2)
            | (at_builtin; refine wpList_append_own _ rfl (.tmp 42) (.tmp 45) 22 rfl wr.heap.size 3 i0 _ 1 8 Try.underlying22 hi hz0 hz1 hz2 rfl (by decide) _ (0 + k0 + 1) _ rfl hown2 ⟨b, 0, none⟩ (0) (0) ((L.drop k0).map (Value.int .i64)) rfl Hl2.out (cells_from hL hk0 (fun j hj => cell_keep (Hc.out j hj) hq2) _ (fun _ => by omega)) (fun u hu => by obtain ⟨x, _, rfl⟩ := List.mem_map.1 hu; rfl) (by unfold maxLen; omega) (by omega) (by omega) ?_; intro v3 w4 hown3 hgrow3 _; have hk3 : Holds (fun r => r < wr.heap.size) wr w4 := hk2.grown hgrow3 (fun r hr => by have := own_base hown2 r hr; omega)))
          obtain ⟨i1, i2, i3⟩ := ins_ok L k0 k0 hL Ha.out hn
          obtain ⟨b3, c3, hq, n1, n2, n3, n4⟩ := tame_next (k0 := k0) hown3 hL (by omega) (by omega) (by rw [List.drop_eq_nil_of_le (by omega)]; simp) hb hk3
          go_roundw
          case rel => exact ⟨k0 + 1, b3, c3, _, by omega, by go_num, by simpa [Nat.zero_add] using hq, n1, n2, i1, i2, i3, n3, n4⟩
          case measure => simp [intOf]; omega
        · have hkc3 : k0 < c := by omega
          have hkc4 : (k0 : Int) < c := by omega
          have Hl2 := Lib.hid (show ((L.drop k0).map (Value.int .i64)).length = (k - k0) * 1 by rw [List.length_map, List.length_drop]; omega)
          go_wp2_with (
            first
            | (go_at_call 19; refine (hmo _).mono ?_; rintro e w1 ⟨rfl, rfl⟩)
            | (at_builtin; (refine wpList_append_own _ rfl (.tmp 33) (.tmp 36) 22 rfl wr.heap.size 3 i0 _ 1 8 Try.underlying22 hi hz0 hz1 hz2 rfl (by decide) _ 0 [] rfl (World.ownsRow_nil _ _ _ _) ⟨b, 0, none⟩ k0 c ((L.take k0).map (Value.int .i64)) rfl Hl1.out Hc1.out (fun u hu => by obtain ⟨x, _, rfl⟩ := List.mem_map.1 hu; rfl) (by unfold maxLen; omega) (by omega) (Nat.le_refl _) ?_; intro v1 w2 hown1 hgrow1 _; have hk1 : Holds (fun r => r < wr.heap.size) wr w2 := (Holds.refl _ wr).grown hgrow1 (fun r hr => by cases hr); have hk1s := hk1.size))
            | (at_builtin; refine wpList_append_own _ rfl (.tmp 38) (.tmp 40) 22 rfl wr.heap.size 3 i0 _ 1 8 Try.underlying22 hi hz0 hz1 hz2 rfl (by decide) _ (0 + k0) ([] ++ (L.take k0).map (Value.int .i64)) rfl (hown1.alloc _) _ 1 1 [.int .i64 k] rfl rfl (new_cells _ _ _ _ (by simp)) (by simp [Value.oneCell']) (by unfold maxLen; omega) (by omega) (by simp; omega) ?_; intro v2 w3 hown2 hgrow2 _; have hk2 : Holds (fun r => r < wr.heap.size) wr w3 := (hk1.alloc _).grown hgrow2 (fun r hr => by have := own_base hown1 r hr; omega); have hk2s := hk2.size; have hq2 := hk2.below (Nat.le_refl _))
            | (at_builtin; refine wpList_append_own _ rfl (.tmp 42) (.tmp 45) 22 rfl wr.heap.size 3 i0 _ 1 8 Try.underlying22 hi hz0 hz1 hz2 rfl (by decide) _ (0 + k0 + 1) _ rfl hown2 ⟨b, k0, none⟩ (k - k0) (c - k0) ((L.drop k0).map (Value.int .i64)) rfl Hl2.out (cells_from hL hk0 (fun j hj => cell_keep (Hc.out j hj) hq2) _ (fun _ => by omega)) (fun u hu => by obtain ⟨x, _, rfl⟩ := List.mem_map.1 hu; rfl) (by unfold maxLen; omega) (by omega) (by omega) ?_; intro v3 w4 hown3 hgrow3 _; have hk3 : Holds (fun r => r < wr.heap.size) wr w4 := hk2.grown hgrow3 (fun r hr => by have := own_base hown2 r hr; omega)))
          obtain ⟨i1, i2, i3⟩ := ins_ok L k k0 hL Ha.out hn
          obtain ⟨b3, c3, hq, n1, n2, n3, n4⟩ := tame_next (k0 := k0) hown3 hL (by omega) (by omega) (by simp) hb hk3
          go_roundw
          case rel => exact ⟨k + 1, b3, c3, _, by omega, by go_num, by simpa [Nat.zero_add] using hq, n1, n2, i1, i2, i3, n3, n4⟩
          case measure => simp [intOf]; omega
      · clear hcs hv
        have hk0 : k ≤ k := Nat.le_refl _
        have Hl1 := Lib.hid (show ((L.take k).map (Value.int .i64)).length = k * 1 by rw [List.length_map, List.length_take]; omega)
        have Hc1 := Lib.hid (cells_to (k0 := k) hL (by omega) hc)
        have hk0I : ((k : Nat) : Int) ≤ k := by omega
        have hk0c : ((k : Nat) : Int) ≤ c := by omega
        have Ha := Lib.hid ha
        have Hc := Lib.hid hc
        clear hc ha
        by_cases hkc2 : k = c
        · skip
          obtain rfl : k = c := hkc2
          have Hl2 := Lib.hid (show ((L.drop k).map (Value.int .i64)).length = (0) * 1 by rw [List.length_map, List.length_drop]; omega)
          go_wp2_with (
            first
            | (at_builtin; (refine wpList_append_own _ rfl (.tmp 33) (.tmp 36) 22 rfl wr.heap.size 3 i0 _ 1 8 Try.underlying22 hi hz0 hz1 hz2 rfl (by decide) _ 0 [] rfl (World.ownsRow_nil _ _ _ _) ⟨b, 0, none⟩ k k ((L.take k).map (Value.int .i64)) rfl Hl1.out Hc1.out (fun u hu => by obtain ⟨x, _, rfl⟩ := List.mem_map.1 hu; rfl) (by unfold maxLen; omega) (by omega) (Nat.le_refl _) ?_; intro v1 w2 hown1 hgrow1 _; have hk1 : Holds (fun r => r < wr.heap.size) wr w2 := (Holds.refl _ wr).grown hgrow1 (fun r hr => by cases hr); have hk1s := hk1.size))
            | (at_builtin; refine wpList_append_own _ rfl (.tmp 38) (.tmp 40) 22 rfl wr.heap.size 3 i0 _ 1 8 Try.underlying22 hi hz0 hz1 hz2 rfl (by decide) _ (0 + k) ([] ++ (L.take k).map (Value.int .i64)) rfl (hown1.alloc _) _ 1 1 [.int .i64 k] rfl rfl (new_cells _ _ _ _ (by simp)) (by simp [Value.oneCell']) (by unfold maxLen; omega) (by omega) (by simp; omega) ?_; intro v2 w3 hown2 hgrow2 _; have hk2 : Holds (fun r => r < wr.heap.size) wr w3 := (hk1.alloc _).grown hgrow2 (fun r hr => by have := own_base hown1 r hr; omega); have hk2s := hk2.size; have hq2 := hk2.below (Nat.le_refl _); obtain ⟨b2, c2, rfl, h2b, h2lt, h2c, h2m, _⟩ := own_form hown2 (by omega); have hown3 := hown2; have hk3 := hk2)
            | (at_builtin; refine wpList_append_own _ rfl (.tmp 42) (.tmp 45) 22 rfl wr.heap.size 3 i0 _ 1 8 Try.underlying22 hi hz0 hz1 hz2 rfl (by decide) _ (0 + k + 1) _ rfl hown2 ⟨b, 0, none⟩ (0) (0) ((L.drop k).map (Value.int .i64)) rfl Hl2.out (cells_from hL hk0 (fun j hj => cell_keep (Hc.out j hj) hq2) _ (fun _ => by omega)) (fun u hu => by obtain ⟨x, _, rfl⟩ := List.mem_map.1 hu; rfl) (by unfold maxLen; omega) (by omega) (by omega) ?_; intro v3 w4 hown3 hgrow3 _; have hk3 : Holds (fun r => r < wr.heap.size) wr w4 := hk2.grown hgrow3 (fun r hr => by have := own_base hown2 r hr; omega)))
          obtain ⟨i1, i2, i3⟩ := ins_ok L k k hL Ha.out hn
          obtain ⟨b3, c3, hq, n1, n2, n3, n4⟩ := tame_next (k0 := k) hown3 hL (by omega) (by omega) (by rw [List.drop_eq_nil_of_le (by omega)]; simp) hb hk3
          go_roundw
          case rel => exact ⟨k + 1, b3, c3, _, by omega, by go_num, by simpa [Nat.zero_add] using hq, n1, n2, i1, i2, i3, n3, n4⟩
          case measure => simp [intOf]; omega
        · have hkc3 : k < c := by omega
          have hkc4 : (k : Int) < c := by omega
          have Hl2 := Lib.hid (show ((L.drop k).map (Value.int .i64)).length = (k - k) * 1 by rw [List.length_map, List.length_drop]; omega)
          go_wp2_with (
            first
            | (at_builtin; (refine wpList_append_own _ rfl (.tmp 33) (.tmp 36) 22 rfl wr.heap.size 3 i0 _ 1 8 Try.underlying22 hi hz0 hz1 hz2 rfl (by decide) _ 0 [] rfl (World.ownsRow_nil _ _ _ _) ⟨b, 0, none⟩ k c ((L.take k).map (Value.int .i64)) rfl Hl1.out Hc1.out (fun u hu => by obtain ⟨x, _, rfl⟩ := List.mem_map.1 hu; rfl) (by unfold maxLen; omega) (by omega) (Nat.le_refl _) ?_; intro v1 w2 hown1 hgrow1 _; have hk1 : Holds (fun r => r < wr.heap.size) wr w2 := (Holds.refl _ wr).grown hgrow1 (fun r hr => by cases hr); have hk1s := hk1.size))
            | (at_builtin; refine wpList_append_own _ rfl (.tmp 38) (.tmp 40) 22 rfl wr.heap.size 3 i0 _ 1 8 Try.underlying22 hi hz0 hz1 hz2 rfl (by decide) _ (0 + k) ([] ++ (L.take k).map (Value.int .i64)) rfl (hown1.alloc _) _ 1 1 [.int .i64 k] rfl rfl (new_cells _ _ _ _ (by simp)) (by simp [Value.oneCell']) (by unfold maxLen; omega) (by omega) (by simp; omega) ?_; intro v2 w3 hown2 hgrow2 _; have hk2 : Holds (fun r => r < wr.heap.size) wr w3 := (hk1.alloc _).grown hgrow2 (fun r hr => by have := own_base hown1 r hr; omega); have hk2s := hk2.size; have hq2 := hk2.below (Nat.le_refl _); obtain ⟨b2, c2, rfl, h2b, h2lt, h2c, h2m, _⟩ := own_form hown2 (by omega); have hown3 := hown2; have hk3 := hk2)
            | (at_builtin; refine wpList_append_own _ rfl (.tmp 42) (.tmp 45) 22 rfl wr.heap.size 3 i0 _ 1 8 Try.underlying22 hi hz0 hz1 hz2 rfl (by decide) _ (0 + k + 1) _ rfl hown2 ⟨b, k, none⟩ (k - k) (c - k) ((L.drop k).map (Value.int .i64)) rfl Hl2.out (cells_from hL hk0 (fun j hj => cell_keep (Hc.out j hj) hq2) _ (fun _ => by omega)) (fun u hu => by obtain ⟨x, _, rfl⟩ := List.mem_map.1 hu; rfl) (by unfold maxLen; omega) (by omega) (by omega) ?_; intro v3 w4 hown3 hgrow3 _; have hk3 : Holds (fun r => r < wr.heap.size) wr w4 := hk2.grown hgrow3 (fun r hr => by have := own_base hown2 r hr; omega)))
          obtain ⟨i1, i2, i3⟩ := ins_ok L k k hL Ha.out hn
          obtain ⟨b3, c3, hq, n1, n2, n3, n4⟩ := tame_next (k0 := k) hown3 hL (by omega) (by omega) (by rw [List.drop_eq_nil_of_le (by omega)]; simp) hb hk3
          go_roundw
          case rel => exact ⟨k + 1, b3, c3, _, by omega, by go_num, by simpa [Nat.zero_add] using hq, n1, n2, i1, i2, i3, n3, n4⟩
          case measure => simp [intOf]; omega
    · clear hcs hv
      go_wp2
      go_ret
      have hkm : k = mn + 1 := by omega
      subst hL
      have hlp : 1 ≤ L.length := by omega
      have hlq : L.length ≤ most := by omega
      refine ⟨b, c, L, rfl, hkc, ⟨_, c, rfl, by unfold maxLen; omega, fun j hj => ⟨b, 0, _, rfl, by rw [Nat.zero_add]; exact hc j hj, rfl⟩⟩, ?_, by omega, hb⟩
      simp only [ordB, rowsB, Bool.and_eq_true, decide_eq_true_eq]
      exact ⟨⟨hlp, by omega⟩, ha, hn⟩
end Go.Proofs.Ytdploccpobpjjaa
