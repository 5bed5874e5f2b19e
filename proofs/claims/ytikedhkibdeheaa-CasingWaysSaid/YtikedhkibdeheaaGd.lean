/- The walk of ways. -/
import Derived.Test.YtikedhkibdeheaaGc
import Derived.Test.YtikedhkibdeheaaCh
import Derived.Test.YtikedhkibdeheaaCc
import Derived.Test.YtikedhkibdeheaaCa
import Derived.Test.YtikedhkibdeheaaRl
import Derived.StillTailTactics
namespace Go.Proofs.Ytikedhkibdeheaa
open Go.RowKit

theorem infoS : (Try.prog.info? 9).map (fun i => (i.zero, i.size, i.bytes)) = some (some (.string ByteArray.empty), 1, 16) := by kernel_rfl

theorem cell_holds {w w' : World} {b o : Nat} {u : Value} {K : Nat → Prop} (h : w.cell? ⟨b, o, none⟩ = some u) (hh : Holds K w w') (hk : K b) : w'.cell? ⟨b, o, none⟩ = some u :=
  (World.cell?_of_block (hh.block b (block_lt_of_cell h) hk)).trans h
theorem cat_letter (u : List UInt8) (n : Nat) (x : Int) (hn : n < 4) (hx : x = n) : (⟨u.toArray⟩ : ByteArray) ++ (⟨#[97, 65, 98, 66]⟩ : ByteArray).extract n (n + 1) = ⟨(u ++ [nm x]).toArray⟩ := by
  subst hx
  apply ByteArray.ext
  obtain rfl | rfl | rfl | rfl : n = 0 ∨ n = 1 ∨ n = 2 ∨ n = 3 := by omega
  all_goals
    rw [ByteArray.data_append]
    apply Array.toList_inj.1
    simp
    rfl
theorem made_strs (d : Nat) (d1 : 1 ≤ d) (d5 : d ≤ 5) (L : List Fd) : (madeCells (Value.string ByteArray.empty).cells (d * 1)).toList = wayV L d 0 := by
  obtain rfl | rfl | rfl | rfl | rfl : d = 1 ∨ d = 2 ∨ d = 3 ∨ d = 4 ∨ d = 5 := by omega
  all_goals kernel_rfl

set_option maxHeartbeats 2000000 in
set_option maxRecDepth 100000 in
theorem ways_c (W : List Int) (hW : wok W) (hg : nth W 0 = 1 ∨ nth W 0 = 2) (d : Nat) (hd : nth W 1 = d) (d1 : 1 ≤ d) (d5 : d ≤ 5) (hLd : (numS (sg W) (2 * nth W 0).toNat 0).length = d) (w : World) :
    Calls Try.prog 49 #[.agg (ic W)] w fun e w' => ∃ g1, e = .returned (.slice (some ⟨g1, 0, none⟩) d d) ∧ w.heap.size ≤ g1 ∧ At w' g1 9 (strs (wayL (numS (sg W) (2 * nth W 0).toNat 0) (d - 1))).toArray ∧ Keeps w w' := by
  have hc0 := cell_ic_new w 78 W 0 (by rw [hW.1]; omega)
  have hc1 := cell_ic_new w 78 W 1 (by rw [hW.1]; omega)
  rw [hd] at hc1
  have hbw0 := At.new w 78 (ic W)
  have hp := numS_p (sg W) (2 * nth W 0).toNat 0
  obtain ⟨i0, hi, hz0, hz1, hz2⟩ := info_parts infoS
  have hns := fun x => number_c W hW (nth W 0) hg 0 (by omega) x
  have hcf := fun k hk => fc_at (numS (sg W) (2 * nth W 0).toNat 0) k hk
  generalize numS (sg W) (2 * nth W 0).toNat 0 = L at *
  go_enter Try.func49, Try.ntmps49
  go_wp2_with (
    first
    | (at_make; refine wpList_make_full _ rfl _ _ 23 rfl w.heap.size 9 i0 _ 1 Try.underlying23 hi hz0 hz1 _ _ _ _ d rfl rfl rfl rfl (by rw [hz2]; omega) (by unfold maxLen; omega) (by simp) ?_; intro w1 hown1 hgrow1; have hbw1 := hbw0.grown hgrow1 (by simp); have hc01 := hbw1.int 0 (by rw [hW.1]; omega))
    | (refine wpList_load_row rfl 78 _ rfl w.heap.size rfl 78 (ic W) (0, 0) _ hbw1 Try.underlying78 rfl (sizeW W hW.1) ?_)
    | (go_at_call 70; refine (hns _).mono ?_; rintro e w2 ⟨v, rfl, hown, hb2⟩; obtain ⟨g0, cap0, rfl, hbg0, hlt0, hcap0, hmax0, hcs⟩ := own_form hown (by omega)))
  · have hde : d = 1 := by omega
    have hat1 := (own_at hown1).1
    rw [made_strs d d1 d5 L] at hat1
    have hgrow0 : w.heap.size < w1.heap.size := Nat.lt_of_lt_of_le (by simp) hgrow1.size
    have hat2 := hat1.later hb2
    rw [show (w.alloc (.cells (ic W) 78)).heap.size = w.heap.size + 1 by simp] at hat2
    have hk2 : Keeps w w2 := Keeps.next ((Keeps.alloc (Below.refl _ w) _).grown hgrow1 (by simp) (fun g h => by simp at h)) hb2
    subst hde
    clear hcs hcf hns hown hown1 hc0 hc1 hc01 hbw0 hbw1 hat1 hb2 hgrow1
    go_loopw [16] (fun i wr => i = .int .i64 0 ∧ wr = w2) (fun _ _ => 0)
    case atStart => exact ⟨rfl, rfl⟩
    case round =>
      obtain ⟨rfl, rfl⟩ := hrel
      go_wp2_with fail
      go_ret
      exact ⟨_, rfl, by omega, hat2, hk2⟩
  · have hat1 := (own_at hown1).1
    rw [made_strs d d1 d5 L] at hat1
    have hgrow0 : w.heap.size < w1.heap.size := Nat.lt_of_lt_of_le (by simp) hgrow1.size
    have hat2 := hat1.later hb2
    rw [show (w.alloc (.cells (ic W) 78)).heap.size = w.heap.size + 1 by simp] at hat2
    have hlt2 := hat2.lt
    have hk2 : Keeps w w2 := Keeps.next ((Keeps.alloc (Below.refl _ w) _).grown hgrow1 (by simp) (fun g h => by simp at h)) hb2
    have hne : g0 ≠ w.heap.size + 1 := by
      have := hat1.lt
      rw [show (w.alloc (.cells (ic W) 78)).heap.size = w.heap.size + 1 by simp] at this
      omega
    have hcs1 : ∀ wr, Holds (fun r => r ≠ w.heap.size + 1) w2 wr → ∀ k, k + 1 < L.length → wr.cell? ⟨g0, 3 + k * 3, none⟩ = some (.int .i64 (sh L (k + 1))) ∧ wr.cell? ⟨g0, 3 + k * 3 + 1, none⟩ = some (.int .i64 (fr L (k + 1))) ∧ wr.cell? ⟨g0, 3 + k * 3 + 2, none⟩ = some (.int .i64 (lt L (k + 1))) := by
      intro wr h k hk
      rw [show 3 + k * 3 = (k + 1) * 3 by omega]
      exact ⟨cell_holds (hcs _ _ (hcf (k + 1) hk).1) h hne, cell_holds (hcs _ _ (hcf (k + 1) hk).2.1) h hne, cell_holds (hcs _ _ (hcf (k + 1) hk).2.2) h hne⟩
    clear hcs hcf hns hown hown1 hc0 hc1 hc01 hbw0 hbw1 hat1 hb2 hgrow1
    go_loopw [16] (fun i wr => ∃ k : Nat, k ≤ d - 1 ∧ i = .int .i64 k ∧ At wr (w.heap.size + 1) 9 (wayV L d k).toArray ∧ Holds (fun r => r ≠ w.heap.size + 1) w2 wr) (fun i _ => d - 1 - (intOf i).toNat)
    case atStart => exact ⟨0, by omega, rfl, hat2, Holds.refl _ _⟩
    case round =>
      obtain ⟨k, hk, rfl, hat, hh⟩ := hrel
      by_cases hlt : k < d - 1
      · obtain ⟨hx0, hx1, hx2⟩ := hcs1 wr hh k (by omega)
        obtain ⟨p1, p2, p3, p4⟩ := hp (k + 1) (by omega) (by omega)
        clear hcs1 hp
        have hl4 : lt L (k + 1) = 0 ∨ lt L (k + 1) = 1 ∨ lt L (k + 1) = 2 ∨ lt L (k + 1) = 3 := by omega
        have Hset := Lib.hid (wayV_set L d k (by omega))
        have hwv := wayV_at L d k (fr L (k + 1)).toNat (by omega)
        obtain ⟨f, hf⟩ := Int.eq_ofNat_of_zero_le p1
        rw [hf] at hx1 hwv Hset p2
        simp only [Int.toNat_natCast] at hwv Hset
        have hfd : f < d := by omega
        have hfk : f < k + 1 := by omega
        have hcw : wr.cell? ⟨w.heap.size + 1, f, none⟩ = some (.string ⟨((wayL L k)[f]?.getD []).toArray⟩) := by rw [hat.cell, List.getElem?_toArray]; exact hwv
        have hkd : k + 1 < d := by omega
        have hat5 := fun cs => (At.new wr 103 cs)
        have hat6 := fun o => hat.alloc o
        have hcw6 := fun o => cell_keep hcw (Keeps.alloc (Below.refl _ wr) o)
        clear hwv hcw p1 p2 p3 p4
        have hu := wayL_at_short L k f
        generalize (wayL L k)[f]?.getD [] = u at *
        generalize wayL L k = WL at *
        obtain h | h | h | h := hl4
        · rw [h] at hx2 Hset
          clear h
          go_wp2_with fail
          have haY := hat5 #[.int .i64 (sh L (k + 1)), .int .i64 f, .int .i64 0]
          have hbY := hat6 (.cells #[.int .i64 (sh L (k + 1)), .int .i64 f, .int .i64 0] 103)
          have hcY := hcw6 (.cells #[.int .i64 (sh L (k + 1)), .int .i64 f, .int .i64 0] 103)
          have hhY := hh.alloc (.cells #[.int .i64 (sh L (k + 1)), .int .i64 f, .int .i64 0] 103)
          generalize wr.alloc (.cells #[.int .i64 (sh L (k + 1)), .int .i64 f, .int .i64 0] 103) = Y at *
          have y1 := haY.cell 1
          have y2 := haY.cell 2
          have q6 : ¬ (9223372036854775807 < u.length + 1) := by omega
          have q7 : (⟨u.toArray⟩ : ByteArray) ++ (⟨#[97, 65, 98, 66]⟩ : ByteArray).extract 0 1 = ⟨(u ++ [nm 0]).toArray⟩ := cat_letter u 0 0 (by omega) rfl
          have q5 : IntKind.i64.wrap 1 = 1 := by decide
          have q1 : IntKind.i64.wrap ((k : Int) + 1) = (k : Int) + 1 := IntWalk.i64_in _ (by omega)
          have q2 : 0 ≤ (k : Int) + 1 := by omega
          have q3 : (k : Int) + 1 < d := by omega
          have q4 : ((k : Int) + 1).toNat = k + 1 := by omega
          generalize wr.heap.size = gs at *
          clear haY
          go_still_tail 16, (by kernel_rfl)
          change wpList _ _ _ _ _ Y.drew
          have hbY' : At Y.drew (w.heap.size + 1) 9 (wayV L d k).toArray := hbY
          have hhY' := hhY.drew
          clear hcY hbY hhY y1 y2
          generalize Y.drew = Z at *
          have hZ1 : Z.cell? ⟨w.heap.size + 1, k + 1, none⟩ = some (.string ByteArray.empty) := by rw [hbY'.cell, List.getElem?_toArray]; exact wayV_new L d k hkd
          have hZ2 := hbY'.frozen (k + 1)
          go_wp2_with fail
          go_roundw
          case rel => exact ⟨k + 1, by omega, by go_num, by rw [← Hset.out, ← List.setIfInBounds_toArray]; exact hbY'.set (k + 1) _, hhY'.set _ (by simp) _⟩
          case measure => simp [intOf]; omega
        · rw [h] at hx2 Hset
          clear h
          go_wp2_with fail
          have haY := hat5 #[.int .i64 (sh L (k + 1)), .int .i64 f, .int .i64 1]
          have hbY := hat6 (.cells #[.int .i64 (sh L (k + 1)), .int .i64 f, .int .i64 1] 103)
          have hcY := hcw6 (.cells #[.int .i64 (sh L (k + 1)), .int .i64 f, .int .i64 1] 103)
          have hhY := hh.alloc (.cells #[.int .i64 (sh L (k + 1)), .int .i64 f, .int .i64 1] 103)
          generalize wr.alloc (.cells #[.int .i64 (sh L (k + 1)), .int .i64 f, .int .i64 1] 103) = Y at *
          have y1 := haY.cell 1
          have y2 := haY.cell 2
          have q6 : ¬ (9223372036854775807 < u.length + 1) := by omega
          have q7 : (⟨u.toArray⟩ : ByteArray) ++ (⟨#[97, 65, 98, 66]⟩ : ByteArray).extract 1 2 = ⟨(u ++ [nm 1]).toArray⟩ := cat_letter u 1 1 (by omega) rfl
          have q5 : IntKind.i64.wrap 2 = 2 := by decide
          have q1 : IntKind.i64.wrap ((k : Int) + 1) = (k : Int) + 1 := IntWalk.i64_in _ (by omega)
          have q2 : 0 ≤ (k : Int) + 1 := by omega
          have q3 : (k : Int) + 1 < d := by omega
          have q4 : ((k : Int) + 1).toNat = k + 1 := by omega
          generalize wr.heap.size = gs at *
          clear haY
          go_still_tail 16, (by kernel_rfl)
          change wpList _ _ _ _ _ Y.drew
          have hbY' : At Y.drew (w.heap.size + 1) 9 (wayV L d k).toArray := hbY
          have hhY' := hhY.drew
          clear hcY hbY hhY y1 y2
          generalize Y.drew = Z at *
          have hZ1 : Z.cell? ⟨w.heap.size + 1, k + 1, none⟩ = some (.string ByteArray.empty) := by rw [hbY'.cell, List.getElem?_toArray]; exact wayV_new L d k hkd
          have hZ2 := hbY'.frozen (k + 1)
          go_wp2_with fail
          go_roundw
          case rel => exact ⟨k + 1, by omega, by go_num, by rw [← Hset.out, ← List.setIfInBounds_toArray]; exact hbY'.set (k + 1) _, hhY'.set _ (by simp) _⟩
          case measure => simp [intOf]; omega
        · rw [h] at hx2 Hset
          clear h
          go_wp2_with fail
          have haY := hat5 #[.int .i64 (sh L (k + 1)), .int .i64 f, .int .i64 2]
          have hbY := hat6 (.cells #[.int .i64 (sh L (k + 1)), .int .i64 f, .int .i64 2] 103)
          have hcY := hcw6 (.cells #[.int .i64 (sh L (k + 1)), .int .i64 f, .int .i64 2] 103)
          have hhY := hh.alloc (.cells #[.int .i64 (sh L (k + 1)), .int .i64 f, .int .i64 2] 103)
          generalize wr.alloc (.cells #[.int .i64 (sh L (k + 1)), .int .i64 f, .int .i64 2] 103) = Y at *
          have y1 := haY.cell 1
          have y2 := haY.cell 2
          have q6 : ¬ (9223372036854775807 < u.length + 1) := by omega
          have q7 : (⟨u.toArray⟩ : ByteArray) ++ (⟨#[97, 65, 98, 66]⟩ : ByteArray).extract 2 3 = ⟨(u ++ [nm 2]).toArray⟩ := cat_letter u 2 2 (by omega) rfl
          have q5 : IntKind.i64.wrap 3 = 3 := by decide
          have q1 : IntKind.i64.wrap ((k : Int) + 1) = (k : Int) + 1 := IntWalk.i64_in _ (by omega)
          have q2 : 0 ≤ (k : Int) + 1 := by omega
          have q3 : (k : Int) + 1 < d := by omega
          have q4 : ((k : Int) + 1).toNat = k + 1 := by omega
          generalize wr.heap.size = gs at *
          clear haY
          go_still_tail 16, (by kernel_rfl)
          change wpList _ _ _ _ _ Y.drew
          have hbY' : At Y.drew (w.heap.size + 1) 9 (wayV L d k).toArray := hbY
          have hhY' := hhY.drew
          clear hcY hbY hhY y1 y2
          generalize Y.drew = Z at *
          have hZ1 : Z.cell? ⟨w.heap.size + 1, k + 1, none⟩ = some (.string ByteArray.empty) := by rw [hbY'.cell, List.getElem?_toArray]; exact wayV_new L d k hkd
          have hZ2 := hbY'.frozen (k + 1)
          go_wp2_with fail
          go_roundw
          case rel => exact ⟨k + 1, by omega, by go_num, by rw [← Hset.out, ← List.setIfInBounds_toArray]; exact hbY'.set (k + 1) _, hhY'.set _ (by simp) _⟩
          case measure => simp [intOf]; omega
        · rw [h] at hx2 Hset
          clear h
          go_wp2_with fail
          have haY := hat5 #[.int .i64 (sh L (k + 1)), .int .i64 f, .int .i64 3]
          have hbY := hat6 (.cells #[.int .i64 (sh L (k + 1)), .int .i64 f, .int .i64 3] 103)
          have hcY := hcw6 (.cells #[.int .i64 (sh L (k + 1)), .int .i64 f, .int .i64 3] 103)
          have hhY := hh.alloc (.cells #[.int .i64 (sh L (k + 1)), .int .i64 f, .int .i64 3] 103)
          generalize wr.alloc (.cells #[.int .i64 (sh L (k + 1)), .int .i64 f, .int .i64 3] 103) = Y at *
          have y1 := haY.cell 1
          have y2 := haY.cell 2
          have q6 : ¬ (9223372036854775807 < u.length + 1) := by omega
          have q7 : (⟨u.toArray⟩ : ByteArray) ++ (⟨#[97, 65, 98, 66]⟩ : ByteArray).extract 3 4 = ⟨(u ++ [nm 3]).toArray⟩ := cat_letter u 3 3 (by omega) rfl
          have q5 : IntKind.i64.wrap 4 = 4 := by decide
          have q1 : IntKind.i64.wrap ((k : Int) + 1) = (k : Int) + 1 := IntWalk.i64_in _ (by omega)
          have q2 : 0 ≤ (k : Int) + 1 := by omega
          have q3 : (k : Int) + 1 < d := by omega
          have q4 : ((k : Int) + 1).toNat = k + 1 := by omega
          generalize wr.heap.size = gs at *
          clear haY
          go_still_tail 16, (by kernel_rfl)
          change wpList _ _ _ _ _ Y.drew
          have hbY' : At Y.drew (w.heap.size + 1) 9 (wayV L d k).toArray := hbY
          have hhY' := hhY.drew
          clear hcY hbY hhY y1 y2
          generalize Y.drew = Z at *
          have hZ1 : Z.cell? ⟨w.heap.size + 1, k + 1, none⟩ = some (.string ByteArray.empty) := by rw [hbY'.cell, List.getElem?_toArray]; exact wayV_new L d k hkd
          have hZ2 := hbY'.frozen (k + 1)
          go_wp2_with fail
          go_roundw
          case rel => exact ⟨k + 1, by omega, by go_num, by rw [← Hset.out, ← List.setIfInBounds_toArray]; exact hbY'.set (k + 1) _, hhY'.set _ (by simp) _⟩
          case measure => simp [intOf]; omega
      · have hkd : k = d - 1 := by omega
        rw [hkd, wayV_end L d d1] at hat
        clear hcs1
        go_wp2_with fail
        go_ret
        exact ⟨_, rfl, by omega, hat, (Holds.trans2 (Holds.of_keeps hk2 (fun r => r < w.heap.size)) hh (fun r _ h => by omega)).below (Nat.le_refl _)⟩
end Go.Proofs.Ytikedhkibdeheaa
