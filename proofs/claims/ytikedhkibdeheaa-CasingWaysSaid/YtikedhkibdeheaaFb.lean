/- The walks of exponents, divisor. -/
import Derived.Test.YtikedhkibdeheaaCb
import Derived.Test.YtikedhkibdeheaaCa
namespace Go.Proofs.Ytikedhkibdeheaa
open Go.RowKit

theorem sizeE (l : List Int) (h : l.length = 2) : (Try.prog.info? 38).map (·.size) = some (ic l).size := by
  rw [ic_size, h]; kernel_rfl

set_option maxHeartbeats 2000000 in
set_option maxRecDepth 100000 in
theorem exponents_c (s : ByteArray) (hs : s.size ≤ maxLen) (w : World) :
    Calls Try.prog 66 #[.string s] w fun e w' => e = .returned (.agg (ic [exA s.data.toList, exB s.data.toList])) ∧ Keeps w w' := by
  unfold maxLen at hs
  go_enter Try.func66, Try.ntmps66
  go_wp2_with fail
  go_loopw [7] (fun i wr => ∃ k : Nat, k ≤ s.size ∧ i = .int .i64 k ∧ At wr w.heap.size 38 (ic [0, 0]) ∧ At wr (w.heap.size + 1) 38 (ic [exA (s.data.toList.take k), exB (s.data.toList.take k)]) ∧ Below w.heap.size w wr) (fun i _ => s.size - (intOf i).toNat)
  case atStart => exact ⟨0, Nat.zero_le _, rfl, (At.new w _ (ic [0, 0])).alloc _, At.new2 w _ _ (ic [0, 0]), Keeps.alloc (Keeps.alloc (Below.refl _ _) _) _⟩
  case round =>
    obtain ⟨k, hk, rfl, h0, h1, hb⟩ := hrel
    by_cases hlt : k < s.size
    · have la := exA_le (s.data.toList.take k)
      have lb := exB_le (s.data.toList.take k)
      have ll : (s.data.toList.take k).length ≤ k := List.length_take_le _ _
      have sa := Lib.hid (exA_snoc s k hlt)
      have sb := Lib.hid (exB_snoc s k hlt)
      generalize exA (s.data.toList.take k) = x at *
      generalize exB (s.data.toList.take k) = y at *
      have c0 := h1.cell 0
      have c1 := h1.cell 1
      have f0 := h1.frozen 0
      have f1 := h1.frozen 1
      have x1 : -9223372036854775807 ≤ x := by omega
      have x2 : x ≤ 9223372036854775806 := by omega
      have y1 : -9223372036854775807 ≤ y := by omega
      have y2 : y ≤ 9223372036854775806 := by omega
      simp only [ic, List.map_cons, List.map_nil, List.getElem?_toArray, List.getElem?_cons_zero, List.getElem?_cons_succ] at c0 c1
      clear la lb ll
      by_cases e97 : s[k] = 97
      · have b97 : ((s[k].toNat : Int) == 97) = true := byte_is _ 97 _ rfl e97
        have E97 := Lib.hid e97
        clear e97
        go_wp2_with fail
        go_roundw
        case rel => exact ⟨k + 1, by omega, by go_num, h0.far (by simp) _, by rw [sa.out, sb.out, E97.out]; simpa [ic, ea, eb] using h1.set 0 (.int .i64 (x + 1)), hb.setCell (by simp) _⟩
        case measure => simp [intOf]; omega
      · have b97 : ((s[k].toNat : Int) == 97) = false := byte_ne _ 97 _ rfl e97
        have E97 := Lib.hid e97
        clear e97
        by_cases e65 : s[k] = 65
        · have b65 : ((s[k].toNat : Int) == 65) = true := byte_is _ 65 _ rfl e65
          have E65 := Lib.hid e65
          clear e65
          go_wp2_with fail
          go_roundw
          case rel => exact ⟨k + 1, by omega, by go_num, h0.far (by simp) _, by rw [sa.out, sb.out, E65.out]; simpa [ic, ea, eb, show x + -1 = x - 1 from by omega] using h1.set 0 (.int .i64 (x - 1)), hb.setCell (by simp) _⟩
          case measure => simp [intOf]; omega
        · have b65 : ((s[k].toNat : Int) == 65) = false := byte_ne _ 65 _ rfl e65
          have E65 := Lib.hid e65
          clear e65
          by_cases e98 : s[k] = 98
          · have b98 : ((s[k].toNat : Int) == 98) = true := byte_is _ 98 _ rfl e98
            have E98 := Lib.hid e98
            clear e98
            go_wp2_with fail
            go_roundw
            case rel => exact ⟨k + 1, by omega, by go_num, h0.far (by simp) _, by rw [sa.out, sb.out, E98.out]; simpa [ic, ea, eb] using h1.set 1 (.int .i64 (y + 1)), hb.setCell (by simp) _⟩
            case measure => simp [intOf]; omega
          · have b98 : ((s[k].toNat : Int) == 98) = false := byte_ne _ 98 _ rfl e98
            have E98 := Lib.hid e98
            clear e98
            by_cases e66 : s[k] = 66
            · have b66 : ((s[k].toNat : Int) == 66) = true := byte_is _ 66 _ rfl e66
              have E66 := Lib.hid e66
              clear e66
              go_wp2_with fail
              go_roundw
              case rel => exact ⟨k + 1, by omega, by go_num, h0.far (by simp) _, by rw [sa.out, sb.out, E66.out]; simpa [ic, ea, eb, show y + -1 = y - 1 from by omega] using h1.set 1 (.int .i64 (y - 1)), hb.setCell (by simp) _⟩
              case measure => simp [intOf]; omega
            · have b66 : ((s[k].toNat : Int) == 66) = false := byte_ne _ 66 _ rfl e66
              have E66 := Lib.hid e66
              clear e66
              go_wp2_with fail
              go_roundw
              case rel => exact ⟨k + 1, by omega, by go_num, h0, by rw [sa.out, sb.out]; simpa [ic, ea, eb, E97.out, E65.out, E98.out, E66.out] using h1, hb⟩
              case measure => simp [intOf]; omega
    · go_wp2_with (first | (refine wpList_load_row rfl 38 _ rfl (w.heap.size + 1) rfl 38 _ (0, 0) _ h1 Try.underlying38 rfl (sizeE _ rfl) ?_) | (refine wpList_store_row rfl 38 _ _ rfl w.heap.size _ rfl rfl 38 (ic [0, 0]) h0 (sizeE _ rfl) rfl (ic_one _) ?_))
      rw [List.take_of_length_le (i := k) (l := s.data.toList) (by simp; omega)]
      refine bodyPost_ret (v := .agg (ic [exA s.data.toList, exB s.data.toList])) (results_cell_row Try.results66 _ _ w.heap.size 38 _ (0, 0) _ rfl (h0.row _) Try.underlying38 rfl (sizeE _ rfl)) rfl ⟨rfl, below_row hb (Nat.le_refl _) _⟩

theorem keeps_drewN (w : World) : ∀ m, Keeps w (w.drewN m)
  | 0 => Below.refl _ _
  | m + 1 => (keeps_drewN w m).drew

set_option maxHeartbeats 2000000 in
theorem divisor_q (x y : Int) (hx : -4294967296 ≤ x ∧ x ≤ 4294967296) (hy : -4294967296 ≤ y ∧ y ≤ 4294967296) (w : World) :
    Calls Try.prog 67 #[.int .i64 x, .int .i64 y] w fun e w' => e = .returned (.int .i64 (Int.gcd x y)) ∧ ∃ m, w' = w.drewN m := by
  obtain ⟨hx1, hx2⟩ := hx
  obtain ⟨hy1, hy2⟩ := hy
  go_enter Try.func67, Try.ntmps67
  go_wp2_with fail
  go_loopw [0, 1] (fun a b wr => ∃ p q : Int, a = .int .i64 p ∧ b = .int .i64 q ∧ -4294967296 ≤ p ∧ p ≤ 4294967296 ∧ -4294967296 ≤ q ∧ q ≤ 4294967296 ∧ Int.gcd p q = Int.gcd x y ∧ ∃ m, wr = w.drewN m) (fun _ b _ => (intOf b).natAbs)
  case atStart => exact ⟨x, y, rfl, rfl, hx1, hx2, hy1, hy2, rfl, 0, rfl⟩
  case round =>
    obtain ⟨p, q, rfl, rfl, p1, p2, q1, q2, hg, m, rfl⟩ := hrel
    have Hg := Lib.hid hg
    clear hg
    by_cases hq : q = 0
    · have b0 : (q != 0) = false := by simp [hq]
      have Hq := Lib.hid hq
      clear hq
      go_wp2_with fail
      go_ret
      exact ⟨ret_int (by rw [← Hg.out, Hq.out]; simp [Int.gcd]; omega), m, rfl⟩
    · have b0 : (q != 0) = true := by simpa using hq
      have hsm := tmod_small p q hq
      have Hsm := Lib.hid hsm
      have ht1 : -4294967296 ≤ p.tmod q := by omega
      have ht2 : p.tmod q ≤ 4294967296 := by omega
      have Hst := Lib.hid (gcd_step p q)
      clear hsm
      go_wp2_with fail
      go_region
      all_goals go_wp2_with fail
      all_goals go_roundw
      case rel => exact ⟨q, p.tmod q, rfl, rfl, q1, q2, ht1, ht2, by rw [Hst.out, Hg.out], m + 1, rfl⟩
      case measure => exact Hsm.out
theorem divisor_c (x y : Int) (hx : -4294967296 ≤ x ∧ x ≤ 4294967296) (hy : -4294967296 ≤ y ∧ y ≤ 4294967296) (w : World) :
    Calls Try.prog 67 #[.int .i64 x, .int .i64 y] w fun e w' => e = .returned (.int .i64 (Int.gcd x y)) ∧ Keeps w w' :=
  (divisor_q x y hx hy w).mono fun _ _ ⟨h, m, hm⟩ => ⟨h, by rw [hm]; exact keeps_drewN _ _⟩
end Go.Proofs.Ytikedhkibdeheaa
