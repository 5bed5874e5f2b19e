/- The walk of columns. -/
import Derived.Test.YtikedhkibdeheaaCb
import Derived.Test.YtikedhkibdeheaaRl
import Derived.Deep.AppendLies
import Derived.Deep.RegionLaw
import Derived.BigRegion
namespace Go.Proofs.Ytikedhkibdeheaa
open Go.RowKit

def nilS : Value := .slice none 0 0
theorem makeT1 (w : World) : (Instr.makeSlice 49 (.int .i64 1) (.int .i64 1)).run Try.prog w = .ok (.slice (some ⟨w.heap.size, 0, none⟩) 1 1) (w.alloc (.cells #[nilS] 35)) := by kernel_rfl
theorem makeT2 (w : World) : (Instr.makeSlice 49 (.int .i64 2) (.int .i64 2)).run Try.prog w = .ok (.slice (some ⟨w.heap.size, 0, none⟩) 2 2) (w.alloc (.cells #[nilS, nilS] 35)) := by kernel_rfl
theorem infoI : (Try.prog.info? 3).map (fun i => (i.zero, i.size, i.bytes)) = some (some (.int .i64 0), 1, 8) := by kernel_rfl

set_option maxHeartbeats 1000000 in
set_option maxRecDepth 100000 in
theorem columns_1 (W : List Int) (hW : wok W) (hg : nth W 0 = 1) (d : Nat) (hd : nth W 1 = d) (d1 : 1 ≤ d) (d5 : d ≤ 5) (w : World) :
    Calls Try.prog 42 #[.agg (ic W)] w fun e w' => ∃ v, e = .returned v ∧ RdTB (fun r => w.heap.size ≤ r) w' v (colsW W 1 d) ∧ Keeps w w' := by
  obtain ⟨i0, hi, hz0, hz1, hz2⟩ := info_parts infoI
  have hbw := At.new w 78 (ic W)
  have c0 := hbw.int 0 (by rw [hW.1]; omega)
  have c1 := hbw.int 1 (by rw [hW.1]; omega)
  rw [hg] at c0
  rw [hd] at c1
  have hmk := makeT1
  have HW := Lib.hid hg
  have HD := Lib.hid hd
  clear hg hd
  go_enter Try.func42, Try.ntmps42
  go_wp2_with fail
  clear c0 hmk
  go_loopw [10] (fun i wr => ∃ (k : Nat) (us : List Value), k ≤ 1 ∧ i = .int .i64 k ∧ us.length = k ∧ At wr w.heap.size 78 (ic W) ∧ At wr (w.heap.size + 1) 35 (us ++ List.replicate (1 - k) nilS).toArray ∧
    (∀ j u, us[j]? = some u → RdIB (fun r => w.heap.size + 2 ≤ r) wr u (colW W d j)) ∧ Keeps w wr) (fun i _ => 1 - (intOf i).toNat)
  case atStart => exact ⟨0, [], by omega, rfl, rfl, hbw.alloc _, At.new2 _ _ _ _, fun j u h => by simp at h, Keeps.alloc (Keeps.alloc (Below.refl _ _) _) _⟩
  case round =>
    obtain ⟨k, us, hk, rfl, hus, hb0, ht0, hrd, hbel⟩ := hrel
    by_cases hlt : k < 1
    · have cs1 := hb0.int 1 (by rw [hW.1]; omega)
      rw [HD.out] at cs1
      have hct := row_at us 1 k nilS hus (by omega)
      have hnews : ∀ j u, ((colW W d k).map (Value.int .i64))[j]? = some u → wr.cell? ((⟨w.heap.size, 2 + 2 * k * 5, none⟩ : Addr).add j) = some u := by
        intro j u hu
        have hj := (List.getElem?_eq_some_iff.1 hu).1
        simp only [List.length_map, colW_length] at hj
        rw [List.getElem?_map, colW_at _ _ _ _ hj] at hu
        cases hu
        rw [show ((⟨w.heap.size, 2 + 2 * k * 5, none⟩ : Addr).add j) = ⟨w.heap.size, 2 + 10 * k + j, none⟩ from by unfold Addr.add; split <;> simp_all <;> omega]
        exact hb0.int _ (by rw [hW.1]; omega)
      have Hnews := Lib.hid hnews
      have Hus := Lib.hid hus
      have s1 : 0 + d ≤ maxLen := by unfold maxLen; omega
      have s2 : (0 + d) * 8 ≤ 140737488355328 := by omega
      have s3 : w.heap.size + 2 ≤ wr.drew.heap.size := by have := ht0.lt; show _ ≤ wr.heap.size; omega
      have q1 : (k : Int) < 1 := by omega
      have q2 : 0 ≤ 2 * (k : Int) := by omega
      have q3 : 2 * (k : Int) < 4 := by omega
      have q4 : (2 * (k : Int)).toNat = 2 * k := by omega
      have q5 : IntKind.i64.wrap (2 * (k : Int)) = 2 * (k : Int) := IntWalk.i64_in _ (by omega)
      have q6 : (d : Int) ≤ 5 := by omega
      have q7 : 0 ≤ (d : Int) := by omega
      have Hrd := Lib.hid hrd
      clear hnews hus hrd
      go_wp2_with fail
      go_region_law (refine step_append_lies _ rfl (.const (.slice none 0 0)) (.tmp 21) 35 rfl (w.heap.size + 2) 3 i0 (.int .i64 0) 1 8 Try.underlying35 hi hz0 hz1 hz2 rfl (by decide) (.slice none 0 0) 0 [] rfl (World.ownsRow_nil _ _ _ _) ⟨w.heap.size, 2 + 2 * k * 5, none⟩ d 5 ((colW W d k).map (Value.int .i64)) rfl (by simp [colW_length]) Hnews.out (by simp [Value.oneCell']) d1 s1 s2 s3 wr.heap.size rfl ?_; intro g2 cap2 w2 hown2 hgrow2 _ _; have ht2 := (At.drew ht0).grown hgrow2 (by simp [Value.ownBlock]); have ct2 := (ht2.cell k).trans hct; have ft2 := ht2.frozen k)
      go_wp2_with fail
      have hh2 : Holds (fun _ => True) wr w2 := ((Holds.refl _ wr).drew).grown hgrow2 (by simp [Value.ownBlock])
      have hh3 : ∀ u, Holds (fun r => r ≠ w.heap.size + 1) wr (w2.setCell ⟨w.heap.size + 1, k, none⟩ u) := fun u => (hh2.mono fun _ _ _ => trivial).set _ (by simp) _
      clear q5
      go_roundw
      case rel =>
        refine ⟨k + 1, us ++ [_], by omega, by go_num, by simp [Hus.out], hb0.holds (hh3 _) (by omega), by rw [← fill_row us 1 k nilS _ Hus.out (by omega)]; exact ht2.set k _, ?_, ?_⟩
        · intro j u hu
          by_cases hj : j < k
          · rw [List.getElem?_append_left (by rw [Hus.out]; exact hj)] at hu
            exact (Hrd.out j u hu).to (hh3 _) (fun b _ h => ⟨by omega, h⟩)
          · have hjk : j = k := by have := (List.getElem?_eq_some_iff.1 hu).1; simp [Hus.out] at this; omega
            subst hjk
            rw [List.getElem?_append_right (by rw [Hus.out]; omega), Hus.out, Nat.sub_self] at hu
            cases hu
            have := own_ints (l := colW W d j) (by rw [colW_length]; rw [Nat.zero_add, List.nil_append] at hown2; exact hown2) (by rw [colW_length]; unfold maxLen; omega)
            exact this.to (K := fun r => r ≠ w.heap.size + 1) ((Holds.refl _ w2).set _ (by simp) _) (fun b _ h => ⟨by omega, h⟩)
        · exact ((Holds.of_below hbel).trans2 (hh3 _) (fun r _ h => by omega)).below (Nat.le_refl _)
      case measure => simp [intOf]; omega
    · have hk1 : k = 1 := by omega
      have Hk := Lib.hid hk1
      clear hk1
      go_wp2_with fail
      go_ret
      refine ⟨_, rfl, ⟨some ⟨w.heap.size + 1, 0, none⟩, 1, by rw [colsW_length]; rfl, by rw [colsW_length]; unfold maxLen; omega, fun j hj => ?_⟩, hbel⟩
      rw [colsW_length] at hj
      obtain ⟨u, hu⟩ : ∃ u, us[j]? = some u := ⟨_, List.getElem?_eq_getElem (by rw [hus, Hk.out]; exact hj)⟩
      refine ⟨w.heap.size + 1, 0, u, rfl, by omega, ?_, colW W d j, colsW_at _ _ _ _ hj, (hrd j u hu).to (Holds.refl (fun _ => True) wr) (fun b _ h => ⟨trivial, by omega⟩)⟩
      rw [Nat.zero_add, ht0.cell, List.getElem?_toArray, List.getElem?_append_left (by rw [hus, Hk.out]; exact hj)]
      exact hu

set_option maxHeartbeats 1000000 in
set_option maxRecDepth 100000 in
theorem columns_2 (W : List Int) (hW : wok W) (hg : nth W 0 = 2) (d : Nat) (hd : nth W 1 = d) (d1 : 1 ≤ d) (d5 : d ≤ 5) (w : World) :
    Calls Try.prog 42 #[.agg (ic W)] w fun e w' => ∃ v, e = .returned v ∧ RdTB (fun r => w.heap.size ≤ r) w' v (colsW W 2 d) ∧ Keeps w w' := by
  obtain ⟨i0, hi, hz0, hz1, hz2⟩ := info_parts infoI
  have hbw := At.new w 78 (ic W)
  have c0 := hbw.int 0 (by rw [hW.1]; omega)
  have c1 := hbw.int 1 (by rw [hW.1]; omega)
  rw [hg] at c0
  rw [hd] at c1
  have hmk := makeT2
  have HW := Lib.hid hg
  have HD := Lib.hid hd
  clear hg hd
  go_enter Try.func42, Try.ntmps42
  go_wp2_with fail
  clear c0 hmk
  go_loopw [10] (fun i wr => ∃ (k : Nat) (us : List Value), k ≤ 2 ∧ i = .int .i64 k ∧ us.length = k ∧ At wr w.heap.size 78 (ic W) ∧ At wr (w.heap.size + 1) 35 (us ++ List.replicate (2 - k) nilS).toArray ∧
    (∀ j u, us[j]? = some u → RdIB (fun r => w.heap.size + 2 ≤ r) wr u (colW W d j)) ∧ Keeps w wr) (fun i _ => 2 - (intOf i).toNat)
  case atStart => exact ⟨0, [], by omega, rfl, rfl, hbw.alloc _, At.new2 _ _ _ _, fun j u h => by simp at h, Keeps.alloc (Keeps.alloc (Below.refl _ _) _) _⟩
  case round =>
    obtain ⟨k, us, hk, rfl, hus, hb0, ht0, hrd, hbel⟩ := hrel
    by_cases hlt : k < 2
    · have cs1 := hb0.int 1 (by rw [hW.1]; omega)
      rw [HD.out] at cs1
      have hct := row_at us 2 k nilS hus (by omega)
      have hnews : ∀ j u, ((colW W d k).map (Value.int .i64))[j]? = some u → wr.cell? ((⟨w.heap.size, 2 + 2 * k * 5, none⟩ : Addr).add j) = some u := by
        intro j u hu
        have hj := (List.getElem?_eq_some_iff.1 hu).1
        simp only [List.length_map, colW_length] at hj
        rw [List.getElem?_map, colW_at _ _ _ _ hj] at hu
        cases hu
        rw [show ((⟨w.heap.size, 2 + 2 * k * 5, none⟩ : Addr).add j) = ⟨w.heap.size, 2 + 10 * k + j, none⟩ from by unfold Addr.add; split <;> simp_all <;> omega]
        exact hb0.int _ (by rw [hW.1]; omega)
      have Hnews := Lib.hid hnews
      have Hus := Lib.hid hus
      have s1 : 0 + d ≤ maxLen := by unfold maxLen; omega
      have s2 : (0 + d) * 8 ≤ 140737488355328 := by omega
      have s3 : w.heap.size + 2 ≤ wr.drew.heap.size := by have := ht0.lt; show _ ≤ wr.heap.size; omega
      have q1 : (k : Int) < 2 := by omega
      have q2 : 0 ≤ 2 * (k : Int) := by omega
      have q3 : 2 * (k : Int) < 4 := by omega
      have q4 : (2 * (k : Int)).toNat = 2 * k := by omega
      have q5 : IntKind.i64.wrap (2 * (k : Int)) = 2 * (k : Int) := IntWalk.i64_in _ (by omega)
      have q6 : (d : Int) ≤ 5 := by omega
      have q7 : 0 ≤ (d : Int) := by omega
      have Hrd := Lib.hid hrd
      clear hnews hus hrd
      go_wp2_with fail
      go_region_law (refine step_append_lies _ rfl (.const (.slice none 0 0)) (.tmp 21) 35 rfl (w.heap.size + 2) 3 i0 (.int .i64 0) 1 8 Try.underlying35 hi hz0 hz1 hz2 rfl (by decide) (.slice none 0 0) 0 [] rfl (World.ownsRow_nil _ _ _ _) ⟨w.heap.size, 2 + 2 * k * 5, none⟩ d 5 ((colW W d k).map (Value.int .i64)) rfl (by simp [colW_length]) Hnews.out (by simp [Value.oneCell']) d1 s1 s2 s3 wr.heap.size rfl ?_; intro g2 cap2 w2 hown2 hgrow2 _ _; have ht2 := (At.drew ht0).grown hgrow2 (by simp [Value.ownBlock]); have ct2 := (ht2.cell k).trans hct; have ft2 := ht2.frozen k)
      go_wp2_with fail
      have hh2 : Holds (fun _ => True) wr w2 := ((Holds.refl _ wr).drew).grown hgrow2 (by simp [Value.ownBlock])
      have hh3 : ∀ u, Holds (fun r => r ≠ w.heap.size + 1) wr (w2.setCell ⟨w.heap.size + 1, k, none⟩ u) := fun u => (hh2.mono fun _ _ _ => trivial).set _ (by simp) _
      clear q5
      go_roundw
      case rel =>
        refine ⟨k + 1, us ++ [_], by omega, by go_num, by simp [Hus.out], hb0.holds (hh3 _) (by omega), by rw [← fill_row us 2 k nilS _ Hus.out (by omega)]; exact ht2.set k _, ?_, ?_⟩
        · intro j u hu
          by_cases hj : j < k
          · rw [List.getElem?_append_left (by rw [Hus.out]; exact hj)] at hu
            exact (Hrd.out j u hu).to (hh3 _) (fun b _ h => ⟨by omega, h⟩)
          · have hjk : j = k := by have := (List.getElem?_eq_some_iff.1 hu).1; simp [Hus.out] at this; omega
            subst hjk
            rw [List.getElem?_append_right (by rw [Hus.out]; omega), Hus.out, Nat.sub_self] at hu
            cases hu
            have := own_ints (l := colW W d j) (by rw [colW_length]; rw [Nat.zero_add, List.nil_append] at hown2; exact hown2) (by rw [colW_length]; unfold maxLen; omega)
            exact this.to (K := fun r => r ≠ w.heap.size + 1) ((Holds.refl _ w2).set _ (by simp) _) (fun b _ h => ⟨by omega, h⟩)
        · exact ((Holds.of_below hbel).trans2 (hh3 _) (fun r _ h => by omega)).below (Nat.le_refl _)
      case measure => simp [intOf]; omega
    · have hk1 : k = 2 := by omega
      have Hk := Lib.hid hk1
      clear hk1
      go_wp2_with fail
      go_ret
      refine ⟨_, rfl, ⟨some ⟨w.heap.size + 1, 0, none⟩, 2, by rw [colsW_length]; rfl, by rw [colsW_length]; unfold maxLen; omega, fun j hj => ?_⟩, hbel⟩
      rw [colsW_length] at hj
      obtain ⟨u, hu⟩ : ∃ u, us[j]? = some u := ⟨_, List.getElem?_eq_getElem (by rw [hus, Hk.out]; exact hj)⟩
      refine ⟨w.heap.size + 1, 0, u, rfl, by omega, ?_, colW W d j, colsW_at _ _ _ _ hj, (hrd j u hu).to (Holds.refl (fun _ => True) wr) (fun b _ h => ⟨trivial, by omega⟩)⟩
      rw [Nat.zero_add, ht0.cell, List.getElem?_toArray, List.getElem?_append_left (by rw [hus, Hk.out]; exact hj)]
      exact hu

theorem columns_c (W : List Int) (hW : wok W) (g : Nat) (hg : nth W 0 = g) (hg1 : g = 1 ∨ g = 2) (d : Nat) (hd : nth W 1 = d) (d1 : 1 ≤ d) (d5 : d ≤ 5) (w : World) :
    Calls Try.prog 42 #[.agg (ic W)] w fun e w' => ∃ v, e = .returned v ∧ RdTB (fun r => w.heap.size ≤ r) w' v (colsW W g d) ∧ Keeps w w' := by
  rcases hg1 with rfl | rfl
  · exact columns_1 W hW hg d hd d1 d5 w
  · exact columns_2 W hW hg d hd d1 d5 w
end Go.Proofs.Ytikedhkibdeheaa
