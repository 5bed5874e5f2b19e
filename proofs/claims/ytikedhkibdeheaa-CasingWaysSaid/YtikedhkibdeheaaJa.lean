/- The reference's letters once more, Exponents, Gcd. -/
import Derived.Test.YtikedhkibdeheaaIa
import Derived.Test.YtikedhkibdeheaaFc
namespace Go.Proofs.Ytikedhkibdeheaa
open Go.RowKit

theorem rletter_y (c : UInt8) (n : Int) (b : Bool) (h : (c = 97 ∧ n = 0 ∧ b = false) ∨ (c = 65 ∧ n = 0 ∧ b = true) ∨ (c = 98 ∧ n = 1 ∧ b = false) ∨ (c = 66 ∧ n = 1 ∧ b = true)) (w : World) :
    Calls Try.prog 40 #[.int .u8 c.toNat, .int .i64 2] w fun e w' => e = .returned (.tuple #[.int .i64 n, .bool b, .bool true]) ∧ w' = w := by
  rcases h with ⟨rfl, rfl, rfl⟩ | ⟨rfl, rfl, rfl⟩ | ⟨rfl, rfl, rfl⟩ | ⟨rfl, rfl, rfl⟩
  all_goals
    go_enter Try.func40, Try.ntmps40
    go_wp2
    exact bodyPost_ret (results_tmp3 (t := 4) (u := 5) (v := 6) (by rfl) _ _ _) rfl ⟨rfl, rfl⟩

set_option maxHeartbeats 2000000 in
set_option maxRecDepth 100000 in
theorem rexponents_c (s : ByteArray) (hs : s.size ≤ maxLen) (hok : s.data.toList.all (okL 2) = true) (w : World) :
    Calls Try.prog 16 #[.string s] w fun e w' => e = .returned (.agg (ic [exA s.data.toList, exB s.data.toList])) ∧ Keeps w w' := by
  unfold maxLen at hs
  go_enter Try.func16, Try.ntmps16
  go_wp2_with fail
  go_loopw [4] (fun i wr => ∃ k : Nat, k ≤ s.size ∧ i = .int .i64 k ∧ At wr w.heap.size 38 (ic [0, 0]) ∧ At wr (w.heap.size + 1) 38 (ic [exA (s.data.toList.take k), exB (s.data.toList.take k)]) ∧ Below w.heap.size w wr) (fun i _ => s.size - (intOf i).toNat)
  case atStart => exact ⟨0, Nat.zero_le _, rfl, (At.new w _ (ic [0, 0])).alloc _, At.new2 w _ _ (ic [0, 0]), Keeps.alloc (Keeps.alloc (Below.refl _ _) _) _⟩
  case round =>
    obtain ⟨k, hk, rfl, h0, h1, hb⟩ := hrel
    by_cases hlt : k < s.size
    · have hc : okL 2 s[k] = true := List.all_eq_true.1 hok _ (Array.mem_toList_iff.2 (Array.getElem_mem (xs := s.data) (i := k) hlt))
      have la := exA_le (s.data.toList.take k)
      have lb := exB_le (s.data.toList.take k)
      have ll : (s.data.toList.take k).length ≤ k := List.length_take_le _ _
      have sa := Lib.hid (exA_snoc s k hlt)
      have sb := Lib.hid (exB_snoc s k hlt)
      generalize exA (s.data.toList.take k) = x at *
      generalize exB (s.data.toList.take k) = y at *
      have c0 := h1.cell 0
      have c1 := h1.cell 1
      have f0 := h1.frozen 0
      have f1 := h1.frozen 1
      have x1 : -9223372036854775807 ≤ x := by omega
      have x2 : x ≤ 9223372036854775806 := by omega
      have y1 : -9223372036854775807 ≤ y := by omega
      have y2 : y ≤ 9223372036854775806 := by omega
      simp only [ic, List.map_cons, List.map_nil, List.getElem?_toArray, List.getElem?_cons_zero, List.getElem?_cons_succ] at c0 c1
      clear la lb ll hok
      rcases okL_four _ hc with e | e | e | e
      · have E := Lib.hid e
        clear e hc
        go_wp2_with (go_at_call 40; refine (rletter_y s[k] 0 false (.inl ⟨E.out, rfl, rfl⟩) _).mono ?_; rintro e w1 ⟨rfl, rfl⟩)
        go_roundw
        case rel => exact ⟨k + 1, by omega, by go_num, h0.far (by simp) _, by rw [sa.out, sb.out, E.out]; simpa [ic, ea, eb] using h1.set 0 (.int .i64 (x + 1)), hb.setCell (by simp) _⟩
        case measure => simp [intOf]; omega
      · have E := Lib.hid e
        clear e hc
        go_wp2_with (go_at_call 40; refine (rletter_y s[k] 0 true (.inr (.inl ⟨E.out, rfl, rfl⟩)) _).mono ?_; rintro e w1 ⟨rfl, rfl⟩)
        go_roundw
        case rel => exact ⟨k + 1, by omega, by go_num, h0.far (by simp) _, by rw [sa.out, sb.out, E.out]; simpa [ic, ea, eb, show x + -1 = x - 1 from by omega] using h1.set 0 (.int .i64 (x - 1)), hb.setCell (by simp) _⟩
        case measure => simp [intOf]; omega
      · have E := Lib.hid e
        clear e hc
        go_wp2_with (go_at_call 40; refine (rletter_y s[k] 1 false (.inr (.inr (.inl ⟨E.out, rfl, rfl⟩))) _).mono ?_; rintro e w1 ⟨rfl, rfl⟩)
        go_roundw
        case rel => exact ⟨k + 1, by omega, by go_num, h0.far (by simp) _, by rw [sa.out, sb.out, E.out]; simpa [ic, ea, eb] using h1.set 1 (.int .i64 (y + 1)), hb.setCell (by simp) _⟩
        case measure => simp [intOf]; omega
      · have E := Lib.hid e
        clear e hc
        go_wp2_with (go_at_call 40; refine (rletter_y s[k] 1 true (.inr (.inr (.inr ⟨E.out, rfl, rfl⟩))) _).mono ?_; rintro e w1 ⟨rfl, rfl⟩)
        go_roundw
        case rel => exact ⟨k + 1, by omega, by go_num, h0.far (by simp) _, by rw [sa.out, sb.out, E.out]; simpa [ic, ea, eb, show y + -1 = y - 1 from by omega] using h1.set 1 (.int .i64 (y - 1)), hb.setCell (by simp) _⟩
        case measure => simp [intOf]; omega
    · go_wp2_with (first | (refine wpList_load_row rfl 38 _ rfl (w.heap.size + 1) rfl 38 _ (0, 0) _ h1 Try.underlying38 rfl (sizeE _ rfl) ?_) | (refine wpList_store_row rfl 38 _ _ rfl w.heap.size _ rfl rfl 38 (ic [0, 0]) h0 (sizeE _ rfl) rfl (ic_one _) ?_))
      rw [List.take_of_length_le (i := k) (l := s.data.toList) (by simp; omega)]
      refine bodyPost_ret (v := .agg (ic [exA s.data.toList, exB s.data.toList])) (results_cell_row Try.results16 _ _ w.heap.size 38 _ (0, 0) _ rfl (h0.row _) Try.underlying38 rfl (sizeE _ rfl)) rfl ⟨rfl, below_row hb (Nat.le_refl _) _⟩

theorem gcd_step' (x y : Int) (hx : 0 ≤ x) (hy : 0 ≤ y) : Int.gcd y (x % y) = Int.gcd x y := by
  obtain ⟨x, rfl⟩ := Int.eq_ofNat_of_zero_le hx
  obtain ⟨y, rfl⟩ := Int.eq_ofNat_of_zero_le hy
  rw [← Int.natCast_emod, Int.gcd_natCast_natCast, Int.gcd_natCast_natCast, Nat.gcd_comm x y]
  exact ((Nat.gcd_rec y x).trans (Nat.gcd_comm _ _)).symm
theorem gcd_abs (x y : Int) : Int.gcd (max x (-x)) (max y (-y)) = Int.gcd x y := by
  have h1 : max x (-x) = x.natAbs := by omega
  have h2 : max y (-y) = y.natAbs := by omega
  rw [h1, h2]; simp [Int.gcd]
set_option maxHeartbeats 2000000 in
theorem rgcd_c (x y : Int) (hx : -4294967296 ≤ x ∧ x ≤ 4294967296) (hy : -4294967296 ≤ y ∧ y ≤ 4294967296) (w : World) :
    Calls Try.prog 17 #[.int .i64 x, .int .i64 y] w fun e w' => e = .returned (.int .i64 (Int.gcd x y)) ∧ w' = w := by
  obtain ⟨hx1, hx2⟩ := hx
  obtain ⟨hy1, hy2⟩ := hy
  go_enter Try.func17, Try.ntmps17
  go_wp2_with fail
  go_loopw [0, 1] (fun a b wr => ∃ p q : Int, a = .int .i64 p ∧ b = .int .i64 q ∧ 0 ≤ p ∧ p ≤ 4294967296 ∧ 0 ≤ q ∧ q ≤ 4294967296 ∧ Int.gcd p q = Int.gcd x y ∧ wr = w) (fun _ b _ => (intOf b).toNat)
  case atStart => exact ⟨max x (-x), max y (-y), rfl, rfl, by omega, by omega, by omega, by omega, gcd_abs x y, rfl⟩
  case round =>
    obtain ⟨p, q, rfl, rfl, p1, p2, q1, q2, hg, rfl⟩ := hrel
    have Hg := Lib.hid hg
    clear hg
    by_cases hq : 0 < q
    · have Hst := Lib.hid (gcd_step' p q p1 (by omega))
      have h1 := Int.emod_nonneg p (show q ≠ 0 by omega)
      have h2 := Int.emod_lt_of_pos p hq
      go_wp2_with fail
      go_roundw
      case rel => exact ⟨q, p % q, rfl, rfl, q1, q2, h1, by omega, by rw [Hst.out, Hg.out], by trivial⟩
      case measure => simp [intOf]; omega
    · have Hq := Lib.hid (show q = 0 by omega)
      go_wp2_with fail
      go_ret
      exact ⟨ret_int (by rw [← Hg.out, Hq.out]; simp [Int.gcd]; omega), rfl⟩
end Go.Proofs.Ytikedhkibdeheaa
