/- The walks of isColumn, lay, wind. -/
import Derived.Test.YtikedhkibdeheaaCb
import Derived.StillTailTactics
import Derived.Deep.RegionHeld3
import Derived.Deep.DeepCutAuto
import Derived.Deep.RegionWith
namespace Go.Proofs.Ytikedhkibdeheaa
open Go.RowKit

theorem sizeW (W : List Int) (hW : W.length = 22) : (Try.prog.info? 78).map (·.size) = some (ic W).size := by
  rw [ic_size, hW]; kernel_rfl

set_option maxHeartbeats 1000000 in
theorem isColumn_c (W : List Int) (hW : W.length = 22) (hd : nth W 1 ≤ 5) (v : Value) (l : List Int) (w : World) (hl : RdI w v l) :
    Calls Try.prog 69 #[.agg (ic W), v] w fun e w' => e = .returned (.bool (colB (nth W 1) l)) ∧ Keeps w w' := by
  obtain ⟨A, c, rfl, hm, hcs⟩ := id hl
  unfold maxLen at hm
  have hc1 := cell_ic_new w 78 W 1 (by omega)
  have hsz := sizeW W hW
  by_cases hlen : (l.length : Int) = nth W 1
  · have hne : ((l.length : Int) != nth W 1) = false := by simp [hlen]
    have HL := Lib.hid hlen
    clear hlen
    go_enter Try.func69, Try.ntmps69
    go_wp2_with fail
    go_loopw [15] (fun i wr => ∃ k : Nat, k ≤ l.length ∧ i = .int .i64 k ∧ At wr w.heap.size 78 (ic W) ∧ At wr (w.heap.size + 1) 107 (tk (l.take k) 5) ∧ (l.take k).all (hasB (nth W 1)) = true ∧ (l.take k).Nodup ∧ Below w.heap.size w wr) (fun i _ => l.length - (intOf i).toNat)
    case atStart =>
      exact ⟨0, Nat.zero_le _, rfl, (At.new _ _ _).alloc _, At.new2 _ _ _ _, rfl, by simp, Keeps.alloc (Keeps.alloc (Below.refl _ _) _) _⟩
    case round =>
      obtain ⟨k, hk, rfl, hw1, ht1, hall, hnd, hb⟩ := hrel
      by_cases hlt : k < l.length
      · obtain ⟨b, off, u, rfl, hcell0, rfl⟩ := hcs k hlt
        have hcell := cell_keep hcell0 hb
        clear hcs hcell0
        have Hall := Lib.hid hall
        have Hnd := Lib.hid hnd
        clear hall hnd
        have hlw := hw1.lt
        have hlt2 := ht1.lt
        by_cases hh : hasB (nth W 1) (nth l k) = true
        · obtain ⟨hx0, hx1⟩ := (hasB_iff _ _).1 hh
          by_cases hin : nth l k ∈ l.take k
          · have htc : wr.cell? ⟨w.heap.size + 1, (nth l k).toNat, none⟩ = some (.bool true) := by
              rw [ht1.cell, tk_at _ _ _ (by omega), Int.toNat_of_nonneg hx0]; simp [hin]
            go_wp2_with (first | (refine wpList_load_row rfl 78 _ rfl w.heap.size rfl 78 (ic W) (0, 0) _ hw1 Try.underlying78 rfl hsz ?_) | (go_at_call 57; refine (has_c W hW _ _).mono ?_; rintro e w1 ⟨rfl, hb1⟩; have htc1 := cell_keep htc hb1))
            go_ret
            exact ⟨ret_bool (colB_twice _ _ k hlt hin).symm, Keeps.next hb hb1⟩
          · have htc : wr.cell? ⟨w.heap.size + 1, (nth l k).toNat, none⟩ = some (.bool false) := by
              rw [ht1.cell, tk_at _ _ _ (by omega), Int.toNat_of_nonneg hx0]; simp [hin]
            go_wp2_with (first | (refine wpList_load_row rfl 78 _ rfl w.heap.size rfl 78 (ic W) (0, 0) _ hw1 Try.underlying78 rfl hsz ?_) | (go_at_call 57; refine (has_c W hW _ _).mono ?_; rintro e w1 ⟨rfl, hb1⟩; have htc1 := cell_keep htc hb1; have hfz1 := (ht1.later hb1).frozen (nth l k).toNat))
            have hb2 := hb1
            go_roundw
            case rel =>
              have ht2 := (ht1.later hb2).set (nth l k).toNat (.bool true)
              rw [tk_set _ _ _ hx0, ← take_nth l k hlt] at ht2
              exact ⟨k + 1, by omega, by go_num, (hw1.later hb2).far (by simp) _, ht2, all_nth _ _ k hlt Hall.out hh, nodup_nth _ k hlt Hnd.out hin, (Keeps.next hb hb2).setCell (by simp) _⟩
            case measure => simp [intOf]; omega
        · have hh' : hasB (nth W 1) (nth l k) = false := by simpa using hh
          go_wp2_with (first | (refine wpList_load_row rfl 78 _ rfl w.heap.size rfl 78 (ic W) (0, 0) _ hw1 Try.underlying78 rfl hsz ?_) | (go_at_call 57; refine (has_c W hW _ _).mono ?_; rintro e w1 ⟨rfl, hb1⟩))
          go_ret
          exact ⟨ret_bool (colB_has _ _ k hlt hh').symm, Keeps.next hb hb1⟩
      · go_wp2
        go_ret
        rw [List.take_of_length_le (by omega)] at hall hnd
        exact ⟨ret_bool (colB_yes _ _ HL.out hall hnd).symm, hb⟩
  · have hne : ((l.length : Int) != nth W 1) = true := by simp [hlen]
    go_enter Try.func69, Try.ntmps69
    go_wp2
    go_ret
    exact ⟨ret_bool (by simp [colB, hlen]), Keeps.alloc (Below.refl _ _) _⟩

set_option maxHeartbeats 1000000 in
theorem lay_0 (W : List Int) (hW : W.length = 22) (b : Nat) (A : Option Addr) (c : Nat) (l : List Int) (w : World) (hl : RdI w (.slice A l.length c) l) (hA : ∀ a, A = some a → a.block ≠ b)
    (h5 : l.length ≤ 5) (hx : l.all (hasB 5) = true) (hb : At w b 78 (ic W)) :
    Calls Try.prog 65 #[.pointer (some ⟨b, 0, none⟩), .int .i64 0, .slice A l.length c] w fun e w' => e = .returned (.tuple #[]) ∧ At w' b 78 (ic (layS W 0 l)) ∧ w.grownBy w' (some b) := by
  obtain ⟨_, _, hv, hm, hcs⟩ := id hl
  cases hv
  unfold maxLen at hm
  go_enter Try.func65, Try.ntmps65
  go_wp2_with fail
  go_loopw [10] (fun i wr => ∃ k : Nat, k ≤ l.length ∧ i = .int .i64 k ∧ At wr b 78 (ic (layK W 0 l k)) ∧ w.grownBy wr (some b)) (fun i _ => l.length - (intOf i).toNat)
  case atStart => exact ⟨0, Nat.zero_le _, rfl, hb, grown_refl _ _⟩
  case round =>
    obtain ⟨k, hk, rfl, hbk, hg⟩ := hrel
    by_cases hlt : k < l.length
    · obtain ⟨b', off, u, rfl, hcell0, rfl⟩ := hcs k hlt
      have hcell := grown_cell hg (by have := hA _ rfl; intro e; cases e; exact this rfl) hcell0
      have hxk := (hasB_iff _ _).1 (List.all_eq_true.1 hx _ (nth_mem l k hlt))
      obtain ⟨hx0, hx1⟩ := hxk
      have hlen : (layK W 0 l k).length = 22 := by rw [layK_length, hW]
      have f1 := hbk.frozen (2 + k)
      have c1 := hbk.int (2 + k) (by omega)
      have f2 := hbk.frozen (7 + (nth l k).toNat)
      have c2 := hbk.int (7 + (nth l k).toNat) (by omega)
      clear hcs hcell0
      go_wp2_with fail
      go_roundw
      case rel =>
        have h2 := (hbk.set (2 + k) (.int .i64 (nth l k))).set (7 + (nth l k).toNat) (.int .i64 k)
        rw [ic_set, ic_set] at h2
        exact ⟨k + 1, by omega, by go_num, by rw [layK_succ]; exact h2, grown_set (grown_set hg _ _) _ _⟩
      case measure => simp [intOf]; omega
    · go_wp2_with fail
      go_end0
      obtain rfl : k = l.length := by omega
      exact ⟨rfl, hbk, hg⟩

set_option maxHeartbeats 1000000 in
theorem lay_1 (W : List Int) (hW : W.length = 22) (b : Nat) (A : Option Addr) (c : Nat) (l : List Int) (w : World) (hl : RdI w (.slice A l.length c) l) (hA : ∀ a, A = some a → a.block ≠ b)
    (h5 : l.length ≤ 5) (hx : l.all (hasB 5) = true) (hb : At w b 78 (ic W)) :
    Calls Try.prog 65 #[.pointer (some ⟨b, 0, none⟩), .int .i64 1, .slice A l.length c] w fun e w' => e = .returned (.tuple #[]) ∧ At w' b 78 (ic (layS W 1 l)) ∧ w.grownBy w' (some b) := by
  obtain ⟨_, _, hv, hm, hcs⟩ := id hl
  cases hv
  unfold maxLen at hm
  go_enter Try.func65, Try.ntmps65
  go_wp2_with fail
  go_loopw [10] (fun i wr => ∃ k : Nat, k ≤ l.length ∧ i = .int .i64 k ∧ At wr b 78 (ic (layK W 1 l k)) ∧ w.grownBy wr (some b)) (fun i _ => l.length - (intOf i).toNat)
  case atStart => exact ⟨0, Nat.zero_le _, rfl, hb, grown_refl _ _⟩
  case round =>
    obtain ⟨k, hk, rfl, hbk, hg⟩ := hrel
    by_cases hlt : k < l.length
    · obtain ⟨b', off, u, rfl, hcell0, rfl⟩ := hcs k hlt
      have hcell := grown_cell hg (by have := hA _ rfl; intro e; cases e; exact this rfl) hcell0
      have hxk := (hasB_iff _ _).1 (List.all_eq_true.1 hx _ (nth_mem l k hlt))
      obtain ⟨hx0, hx1⟩ := hxk
      have hlen : (layK W 1 l k).length = 22 := by rw [layK_length, hW]
      have f1 := hbk.frozen (12 + k)
      have c1 := hbk.int (12 + k) (by omega)
      have f2 := hbk.frozen (17 + (nth l k).toNat)
      have c2 := hbk.int (17 + (nth l k).toNat) (by omega)
      clear hcs hcell0
      go_wp2_with fail
      go_roundw
      case rel =>
        have h2 := (hbk.set (12 + k) (.int .i64 (nth l k))).set (17 + (nth l k).toNat) (.int .i64 k)
        rw [ic_set, ic_set] at h2
        exact ⟨k + 1, by omega, by go_num, by rw [layK_succ]; exact h2, grown_set (grown_set hg _ _) _ _⟩
      case measure => simp [intOf]; omega
    · go_wp2_with fail
      go_end0
      obtain rfl : k = l.length := by omega
      exact ⟨rfl, hbk, hg⟩
end Go.Proofs.Ytikedhkibdeheaa
