/- The walk of number, at a winding's own step. -/
import Derived.Test.YtikedhkibdeheaaCb
import Derived.Test.YtikedhkibdeheaaCn
namespace Go.Proofs.Ytikedhkibdeheaa
open Go.RowKit

theorem infoF : (Try.prog.info? 103).map (fun i => (i.zero, i.size, i.bytes)) = some (some (.agg #[.int .i64 0, .int .i64 0, .int .i64 0]), 3, 24) := by kernel_rfl

theorem step_g (W : List Int) (hW : W.length = 22) (s l : Int) (hs : 0 ≤ s) (hs' : s < 5) (hl : 0 ≤ l) (hl' : l < 4) (w : World) :
    Calls Try.prog 50 #[.agg (ic W), .int .i64 s, .int .i64 l] w fun e w' => e = .returned (.int .i64 (sg W s l)) ∧ Below w.heap.size w w' :=
  step_c W hW s l hs hs' hl hl' w

def z15 : Array Value := ic (List.replicate 15 0)
theorem make5 (w : World) : (Instr.makeSlice 100 (.int .i64 1) (.int .i64 5)).run Try.prog w = .ok (.slice (some ⟨w.heap.size, 0, none⟩) 1 5) (w.alloc (.cells z15 103)) := by kernel_rfl

theorem lit25 (k : Nat) (h : k < 25) : ([Value.bool false, Value.bool false, Value.bool false, Value.bool false, Value.bool false, Value.bool false, Value.bool false, Value.bool false, Value.bool false, Value.bool false, Value.bool false, Value.bool false, Value.bool false, Value.bool false, Value.bool false, Value.bool false, Value.bool false, Value.bool false, Value.bool false, Value.bool false, Value.bool false, Value.bool false, Value.bool false, Value.bool false, Value.bool false] : List Value)[k]? = some (.bool false) := by
  show (List.replicate 25 (Value.bool false))[k]? = _
  rw [List.getElem?_replicate, if_pos h]
theorem lit25_set (s : Int) (h : 0 ≤ s) : (([Value.bool false, Value.bool false, Value.bool false, Value.bool false, Value.bool false, Value.bool false, Value.bool false, Value.bool false, Value.bool false, Value.bool false, Value.bool false, Value.bool false, Value.bool false, Value.bool false, Value.bool false, Value.bool false, Value.bool false, Value.bool false, Value.bool false, Value.bool false, Value.bool false, Value.bool false, Value.bool false, Value.bool false, Value.bool false] : List Value).set s.toNat (.bool true)).toArray = tk [s] 25 := by
  have := tk_set [] 25 s h
  rw [List.nil_append] at this
  rw [← this]
  show _ = (([Value.bool false, Value.bool false, Value.bool false, Value.bool false, Value.bool false, Value.bool false, Value.bool false, Value.bool false, Value.bool false, Value.bool false, Value.bool false, Value.bool false, Value.bool false, Value.bool false, Value.bool false, Value.bool false, Value.bool false, Value.bool false, Value.bool false, Value.bool false, Value.bool false, Value.bool false, Value.bool false, Value.bool false, Value.bool false] : List Value).toArray).setIfInBounds s.toNat (.bool true)
  rw [List.setIfInBounds_toArray]

set_option maxHeartbeats 4000000 in
set_option maxRecDepth 100000 in
theorem number_c (W : List Int) (hW : wok W) (g : Int) (hg : g = 1 ∨ g = 2) (s : Int) (hs : 0 ≤ s ∧ s < 5) (w : World) :
    Calls Try.prog 70 #[.int .i64 s, .int .i64 g, .func (.func 50) #[.agg (ic W)] #[]] w fun e w' => ∃ v, e = .returned v ∧
      w'.ownsRow w.heap.size 103 3 v (numS (sg W) (2 * g).toNat s).length (fc (numS (sg W) (2 * g).toNat s)) ∧ Keeps w w' := by
  obtain ⟨hs0, hs5⟩ := hs
  have hg1 : 1 ≤ g := by omega
  have hg2 : g ≤ 2 := by omega
  have hσ : ∀ x m : Int, 0 ≤ x → x < (5 : Nat) → 0 ≤ m → m < ((2 * g).toNat : Nat) → 0 ≤ sg W x m ∧ sg W x m < (5 : Nat) := fun x m h1 h2 h3 h4 => hW.2 _ (by omega) (by omega)
  have hnum := fun k => numL_ok (n := (5 : Nat)) (g := (2 * g).toNat) (s := s) hσ ⟨hs0, by omega⟩ k
  have Hnum := Lib.hid hnum
  have Hσ := Lib.hid hσ
  clear hnum hσ
  obtain ⟨i0, hi, hz0, hz1, hz2⟩ := info_parts infoF
  have hmk := make5
  have hz15 : (w.alloc (.cells z15 103)).cell? ⟨w.heap.size, 0, none⟩ = some (.int .i64 0) := (At.new w 103 z15).cell 0
  have hl25 := lit25 s.toNat (by omega)
  go_enter Try.func70, Try.ntmps70
  go_wp2_with fail
  clear hmk hz15 hl25
  go_loopw [7, 9] (fun v i wr => ∃ k : Nat, k ≤ (numL (sg W) (2 * g).toNat s k).length ∧ i = .int .i64 k ∧ wr.ownsRow w.heap.size 103 3 v (numL (sg W) (2 * g).toNat s k).length (fc (numL (sg W) (2 * g).toNat s k)) ∧
    At wr (w.heap.size + 1) 109 (tk (shs (numL (sg W) (2 * g).toNat s k)) 25) ∧ Below w.heap.size w wr) (fun _ i _ => 26 - (intOf i).toNat)
  case atStart =>
    refine ⟨0, by simp [numL], rfl, ?_, ?_, ?_⟩
    · exact World.ownsRow.alloc (w := w.alloc (.cells (z15.setIfInBounds 0 (.int .i64 s)) 103)) ⟨rfl, .inr ⟨w.heap.size, 5, z15.setIfInBounds 0 (.int .i64 s), rfl, Nat.le_refl _, heap_alloc_new w _, by omega, by unfold maxLen; omega, rfl, rfl⟩⟩ _
    · rw [lit25_set s hs0]; exact At.new2 _ _ _ _
    · exact Keeps.alloc (Keeps.alloc (Below.refl _ _) _) _
  case round =>
    obtain ⟨k, hk, rfl, hown, hkn, hb⟩ := hrel
    have h5 := numOk_length (Hnum.out k)
    by_cases hlt : k < (numL (sg W) (2 * g).toNat s k).length
    · obtain ⟨L0, hL0⟩ : ∃ L0, L0 = numL (sg W) (2 * g).toNat s k := ⟨_, rfl⟩
      rw [← hL0] at hown hkn hlt h5
      have HL0 := Lib.hid hL0
      clear hL0 hk
      obtain ⟨g0, cap0, rfl, hbg0, _, _, _, hc0⟩ := own_form hown (by omega)
      obtain ⟨wo, hwo⟩ : ∃ wo : World, wo = wr := ⟨_, rfl⟩
      subst hwo
      go_wp2_with fail
      go_loopw [7, 27] (fun v i wr => ∃ m : Nat, (m : Int) ≤ 2 * g ∧ i = .int .i64 m ∧ wr.ownsRow w.heap.size 103 3 v (numR (sg W) k L0 m).length (fc (numR (sg W) k L0 m)) ∧
        At wr (w.heap.size + 1) 109 (tk (shs (numR (sg W) k L0 m)) 25) ∧ Below w.heap.size w wr) (fun _ i _ => (2 * g).toNat - (intOf i).toNat)
      case atStart => exact ⟨0, by simp; omega, rfl, hown, hkn, hb⟩
      case round =>
        obtain ⟨m, hm, rfl, hown1, hkn1, hb2⟩ := hrel
        have hok := numR_ok (L := L0) (at_ := k) Hσ.out (by rw [HL0.out]; exact Hnum.out k) hlt m (by omega)
        by_cases hml : (m : Int) < 2 * g
        · obtain ⟨L, hL⟩ : ∃ L, L = numR (sg W) k L0 m := ⟨_, rfl⟩
          rw [← hL] at hown1 hkn1 hok
          have HL := Lib.hid hL
          clear hL
          obtain ⟨hok1, hkL⟩ := hok
          have hL5 := numOk_length hok1
          obtain ⟨hx0, hx5⟩ := hok1.2.2 _ (sh_mem L k hkL)
          obtain ⟨g1, cap1, rfl, hbg1, _, _, _, hc1⟩ := own_form hown1 (by omega)
          have hcell := hc1 _ _ (fc_at L k hkL).1
          obtain ⟨hy0, hy5⟩ := Hσ.out (sh L k) m hx0 hx5 (by omega) (by omega)
          clear hc0 hc1 hok1
          by_cases hin : sg W (sh L k) m ∈ shs L
          · have htc : wr.cell? ⟨w.heap.size + 1, (sg W (sh L k) m).toNat, none⟩ = some (.bool true) := by
              rw [hkn1.cell, tk_at _ _ _ (by omega), Int.toNat_of_nonneg hy0]; simp [hin]
            go_wp2_with (go_at_call 50; refine (step_g W hW.1 (sh L k) m hx0 hx5 (by omega) (by omega) wr).mono ?_; rintro e w1 ⟨rfl, hb1⟩; have htc1 := cell_keep htc hb1)
            go_roundw
            case rel => exact ⟨m + 1, by omega, by go_num, by rw [numI_in HL.out hin]; exact own_later hown1 hb1, by rw [numI_in HL.out hin]; exact hkn1.later hb1, Keeps.next hb2 hb1⟩
            case measure => simp [intOf]; omega
          · have htc : wr.cell? ⟨w.heap.size + 1, (sg W (sh L k) m).toNat, none⟩ = some (.bool false) := by
              rw [hkn1.cell, tk_at _ _ _ (by omega), Int.toNat_of_nonneg hy0]; simp [hin]
            have hne1 := own_ne hown1 hkn1 (by decide)
            go_wp2_with (first | (go_at_call 50; refine (step_g W hW.1 (sh L k) m hx0 hx5 (by omega) (by omega) wr).mono ?_; rintro e w1 ⟨rfl, hb1⟩; have htc1 := cell_keep htc hb1; have hfz1 := (hkn1.later hb1).frozen (sg W (sh L k) m).toNat) | (at_builtin; refine wpList_append_own _ rfl _ _ 100 rfl w.heap.size 103 i0 _ 3 24 Try.underlying100 hi hz0 hz1 hz2 rfl (by decide) _ L.length (fc L) rfl ((own_set (own_later hown1 hb1) hne1).alloc _) _ 1 1 [.int .i64 (sg W (sh L k) m), .int .i64 k, .int .i64 m] rfl rfl (new_cells _ _ _ _ (by simp)) (by simp [Value.oneCell']) (by unfold maxLen; omega) (by omega) (by have := hb2.size; have := hb1.size; simp; omega) ?_; intro v' w2 hown' hgrow _))
            go_roundw
            case rel =>
              have ht2 := (hkn1.later hb1).set (sg W (sh L k) m).toNat (.bool true)
              rw [tk_set _ _ _ hy0] at ht2
              refine ⟨m + 1, by omega, by go_num, ?_, ?_, ?_⟩
              · rw [numI_new HL.out hin, fc_snoc, List.length_append]; exact hown'
              · rw [numI_new HL.out hin, shs_snoc]; exact (ht2.alloc _).grown hgrow hne1
              · exact below_grown ((((Keeps.next hb2 hb1).setCell (by simp) _)).alloc (by have := hb2.size; have := hb1.size; simp; omega) _) hgrow hbg1 (by have := hb2.size; have := hb1.size; simp; omega)
            case measure => simp [intOf]; omega
        · have hmg : m = (2 * g).toNat := by omega
          have Hmg := Lib.hid hmg
          clear hmg
          go_wp2_with fail
          go_roundw
          case rel =>
            have e : numL (sg W) (2 * g).toNat s (k + 1) = numR (sg W) k L0 m := by
              rw [numL_succ, ← HL0.out, if_pos hlt, Hmg.out]
            refine ⟨k + 1, by rw [e]; have := hok.2; omega, by go_num, by rw [e]; exact hown1, by rw [e]; exact hkn1, hb2⟩
          case measure => simp [intOf]; omega
    · have e : numS (sg W) (2 * g).toNat s = numL (sg W) (2 * g).toNat s k := numS_of _ _ _ k (by omega) (by omega)
      have He := Lib.hid e
      have hkl : (k : Int) = (numL (sg W) (2 * g).toNat s k).length := by omega
      clear e
      obtain ⟨g0, cap0, rfl, hbg0, _, _, _, hc0⟩ := own_form hown (by have := (Hnum.out k).1; omega)
      clear hc0
      go_wp2_with fail
      go_ret
      exact ⟨_, rfl, by rw [He.out]; exact hown, hb⟩
end Go.Proofs.Ytikedhkibdeheaa
