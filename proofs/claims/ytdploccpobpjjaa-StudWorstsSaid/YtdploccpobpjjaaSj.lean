/- The walks of areRows, isOrder. -/
import Derived.Test.YtdploccpobpjjaaSd
namespace Go.Proofs.Ytdploccpobpjjaa
open Go.RowKit Go.Shelf
set_option linter.unusedVariables false

/-- Different rows of n columns; an order. -/
def rowsB (n : Int) (l : List Int) : Bool := l.all (hasB n) && decide l.Nodup
def ordB (l : List Int) : Bool := decide (1 ≤ l.length ∧ l.length ≤ 16) && rowsB l.length l
theorem rowsB_has (d : Int) (l : List Int) (k : Nat) (h : k < l.length) (hn : hasB d (nth l k) = false) : rowsB d l = false := by
  unfold rowsB
  have : l.all (hasB d) = false := List.all_eq_false.2 ⟨_, nth_mem l k h, by simp [hn]⟩
  simp [this]
theorem rowsB_twice (d : Int) (l : List Int) (k : Nat) (h : k < l.length) (hn : nth l k ∈ l.take k) : rowsB d l = false := by
  unfold rowsB
  have : ¬ l.Nodup := fun hd => by
    rw [← List.take_append_drop (k + 1) l, List.take_succ_eq_append_getElem h, List.nodup_append] at hd
    have h1 := hd.1
    rw [List.nodup_append] at h1
    exact h1.2.2 _ hn _ (by simp [nth, List.getElem?_eq_getElem h]) rfl
  simp [this]
theorem rowsB_yes (d : Int) (l : List Int) (h2 : l.all (hasB d) = true) (h3 : l.Nodup) : rowsB d l = true := by
  unfold rowsB; simp only [h2, h3, decide_true, Bool.and_self]
theorem all_nth' (d : Int) (l : List Int) (k : Nat) (h : k < l.length) (h1 : (l.take k).all (hasB d) = true) (h2 : hasB d (nth l k) = true) : (l.take (k + 1)).all (hasB d) = true := by
  rw [take_nth l k h, List.all_append, h1]; simp [h2]
theorem nodup_nth' (l : List Int) (k : Nat) (h : k < l.length) (h1 : (l.take k).Nodup) (h2 : nth l k ∉ l.take k) : (l.take (k + 1)).Nodup := by
  rw [take_nth l k h, List.nodup_append]
  exact ⟨h1, by simp, fun a ha b hb => by simp at hb; subst hb; exact fun e => h2 (e ▸ ha)⟩
set_option maxHeartbeats 1000000 in
theorem areRows_c (v : Value) (l : List Int) (n : Int) (hn : n ≤ 16) (w : World) (hv : RdI w v l) :
    Calls Try.prog 29 #[v, .int .i64 n] w fun e w' => e = .returned (.bool (rowsB n l)) ∧ Keeps w w' := by
  obtain ⟨A, c, rfl, hm, hcs⟩ := id hv
  unfold maxLen at hm
  go_enter Try.func29, Try.ntmps29
  go_wp2_with fail
  go_loopw [10] (fun i wr => ∃ k : Nat, k ≤ l.length ∧ i = .int .i64 k ∧ At wr w.heap.size 72 (tk (l.take k) 16) ∧ (l.take k).all (hasB n) = true ∧ (l.take k).Nodup ∧ Below w.heap.size w wr) (fun i _ => l.length - (intOf i).toNat)
  case atStart =>
    exact ⟨0, Nat.zero_le _, rfl, At.new _ _ _, rfl, by simp, Keeps.alloc (Below.refl _ _) _⟩
  case round =>
    obtain ⟨k, hk, rfl, ht1, hall, hnd, hb⟩ := hrel
    by_cases hlt : k < l.length
    · obtain ⟨b, off, u, rfl, hcell0, rfl⟩ := hcs k hlt
      have hcell := cell_keep hcell0 hb
      clear hcs hcell0
      have Hall := Lib.hid hall
      have Hnd := Lib.hid hnd
      clear hall hnd
      have hlt2 := ht1.lt
      by_cases hh : hasB n (nth l k) = true
      · obtain ⟨hx0, hx1⟩ := (hasB_iff _ _).1 hh
        have Hh := Lib.hid hh
        clear hh
        have d1 : decide (nth l k < 0) = false := by simp; omega
        have d2 : decide (n ≤ nth l k) = false := by simp; omega
        have hx16 : nth l k < 16 := by omega
        by_cases hin : nth l k ∈ l.take k
        · have htc : wr.cell? ⟨w.heap.size, (nth l k).toNat, none⟩ = some (.bool true) := by
            rw [ht1.cell, tk_at _ _ _ (by omega), Int.toNat_of_nonneg hx0]; simp [hin]
          have Hin := Lib.hid hin
          clear hin
          go_wp2_with fail
          go_ret
          exact ⟨ret_bool (rowsB_twice _ _ k hlt Hin.out).symm, hb⟩
        · have htc : wr.cell? ⟨w.heap.size, (nth l k).toNat, none⟩ = some (.bool false) := by
            rw [ht1.cell, tk_at _ _ _ (by omega), Int.toNat_of_nonneg hx0]; simp [hin]
          have fr := ht1.frozen (nth l k).toNat
          have Hin := Lib.hid hin
          clear hin
          go_wp2_with fail
          go_roundw
          case rel =>
            have ht2 := ht1.set (nth l k).toNat (.bool true)
            rw [tk_set _ _ _ hx0, ← take_nth l k hlt] at ht2
            exact ⟨k + 1, by omega, by go_num, ht2, all_nth' _ _ k hlt Hall.out Hh.out, nodup_nth' _ k hlt Hnd.out Hin.out, hb.setCell (by simp) _⟩
          case measure => simp [intOf]; omega
      · have hh' : hasB n (nth l k) = false := by simpa using hh
        have hor : nth l k < 0 ∨ n ≤ nth l k := by simp [hasB] at hh'; omega
        have Hh := Lib.hid hh'
        clear hh hh'
        rcases hor with h | h
        · go_wp2_with fail
          go_ret
          exact ⟨ret_bool (rowsB_has _ _ k hlt Hh.out).symm, hb⟩
        · by_cases h0 : nth l k < 0
          · go_wp2_with fail
            go_ret
            exact ⟨ret_bool (rowsB_has _ _ k hlt Hh.out).symm, hb⟩
          · have d1 : decide (nth l k < 0) = false := by simpa using h0
            go_wp2_with fail
            go_ret
            exact ⟨ret_bool (rowsB_has _ _ k hlt Hh.out).symm, hb⟩
    · rw [List.take_of_length_le (by omega)] at hall hnd
      have Hall := Lib.hid hall
      have Hnd := Lib.hid hnd
      have hke : k = l.length := by omega
      clear hall hnd hke
      go_wp2
      go_ret
      exact ⟨ret_bool (rowsB_yes _ _ Hall.out Hnd.out).symm, hb⟩
set_option maxHeartbeats 1000000 in
theorem isOrder_c (v : Value) (l : List Int) (w : World) (hv : RdI w v l) :
    Calls Try.prog 20 #[v] w fun e w' => e = .returned (.bool (ordB l)) ∧ Keeps w w' := by
  obtain ⟨A, c, rfl, hm, hcs⟩ := id hv
  unfold maxLen at hm
  by_cases h1 : 1 ≤ l.length
  · by_cases h16 : l.length ≤ 16
    · have har := areRows_c _ l l.length (by omega) w hv
      have he : ordB l = rowsB l.length l := by simp [ordB, h1, h16]
      rw [he]
      generalize rowsB (l.length : Int) l = B at *
      have q1 : (1 : Int) ≤ l.length := by omega
      have q2 : (l.length : Int) ≤ 16 := by omega
      clear he hcs
      go_enter Try.func20, Try.ntmps20
      go_wp2_with (go_at_call 29; refine har.mono ?_; rintro e w1 ⟨rfl, hb1⟩)
      go_ret
      exact ⟨rfl, hb1⟩
    · have he : ordB l = false := by simp [ordB, h16]
      rw [he]
      have q1 : (1 : Int) ≤ l.length := by omega
      have q2 : decide ((l.length : Int) ≤ 16) = false := by simp; omega
      clear he hcs
      go_enter Try.func20, Try.ntmps20
      go_wp2_with fail
      go_ret
      exact ⟨rfl, Below.refl _ _⟩
  · have he : ordB l = false := by simp [ordB, h1]
    rw [he]
    have q1 : decide ((1 : Int) ≤ l.length) = false := by simp; omega
    have q3 : decide (1 ≤ l.length) = false := decide_eq_false h1
    clear he hcs
    go_enter Try.func20, Try.ntmps20
    go_wp2_with fail
    go_ret
    exact ⟨rfl, Below.refl _ _⟩
theorem ordB_parts (l : List Int) (h : ordB l = true) : 1 ≤ l.length ∧ l.length ≤ 16 ∧ l.all (hasB l.length) = true ∧ l.Nodup := by
  simp only [ordB, rowsB, Bool.and_eq_true, decide_eq_true_eq] at h
  exact ⟨h.1.1, h.1.2, h.2.1, h.2.2⟩
end Go.Proofs.Ytdploccpobpjjaa
