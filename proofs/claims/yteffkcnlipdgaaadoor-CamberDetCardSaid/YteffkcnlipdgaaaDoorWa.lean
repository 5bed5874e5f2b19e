/- The law's letters. -/
import Derived.Test.YteffkcnlipdgaaaDoorAb
import Derived.Laws.IdiomStrings
namespace Go.Proofs.YteffkcnlipdgaaaDoor
open Go.RowKit
set_option linter.unusedVariables false
set_option linter.unusedSimpArgs false

def bytes (l : List UInt8) : List Value := l.map fun c => Value.int .u8 c.toNat
theorem bytes_length (l : List UInt8) : (bytes l).length = l.length := by simp [bytes]
theorem bytes_append (a b : List UInt8) : bytes (a ++ b) = bytes a ++ bytes b := by simp [bytes]
theorem bytes_one (l : List UInt8) : ∀ u ∈ bytes l, u.oneCell' = true := by
  intro u hu
  obtain ⟨_, _, rfl⟩ := List.mem_map.1 hu
  rfl
theorem infoB : (Tryd.prog.info? 5).map (fun i => (i.zero, i.size, i.bytes)) = some (some (.int .u8 0), 1, 1) := by kernel_rfl
theorem str_own {w : World} {base : Nat} {v : Value} {n : Nat} {l : List UInt8} (h : w.ownsRow base 5 1 v n (bytes l)) :
    (convert 64 9 v).run Tryd.prog w = .ok (.string ⟨l.toArray⟩) w := by
  have hn : l.length = n := by have := h.1; simpa [bytes] using this
  rcases h.2 with ⟨rfl, h0⟩ | ⟨g, cap, cur, rfl, _, hg, hc, _, hs, ht⟩
  · have : l = [] := List.eq_nil_of_length_eq_zero (by omega)
    subst this
    exact run_convert_bytes_nil w 64 5 Tryd.underlying64 Tryd.underlying5 _ _ _ Tryd.underlying9
  · subst hn
    refine run_convert_bytes_back w 64 9 5 ⟨g, 0, none⟩ cap l Tryd.underlying64 Tryd.underlying5 Tryd.underlying9 fun j hj => ?_
    have hx := h.cellAt j (by omega)
    rw [show (⟨g, 0, none⟩ : Addr).add j = ⟨g, j, none⟩ from by unfold Addr.add; split <;> simp_all, hx, bytes, List.getElem?_map, List.getElem?_eq_getElem hj]
    rfl

/-- The letters that the law makes of a string. -/
def ltF (p q : UInt8) (c : UInt8) : UInt8 := if c.toNat % 2 = 0 then p else q
def lts (p q : UInt8) (m : Nat) (s : ByteArray) : List UInt8 := (s.data.toList.take m).map (ltF p q)
theorem lts_len (p q : UInt8) (m : Nat) (s : ByteArray) : (lts p q m s).length ≤ m := by simp [lts]; omega
theorem lts_snoc (p q : UInt8) (k : Nat) (s : ByteArray) (hk : k < s.size) : lts p q (k + 1) s = lts p q k s ++ [ltF p q s[k]] := by
  unfold lts; rw [take_snoc s k hk]; simp
theorem lts_all (p q : UInt8) (m : Nat) (s : ByteArray) : (lts p q m s).all (fun c => [p, q].contains c) = true := by
  rw [List.all_eq_true]
  intro c hc
  obtain ⟨d, -, rfl⟩ := List.mem_map.1 hc
  unfold ltF
  split <;> simp
set_option maxHeartbeats 4000000 in
set_option maxRecDepth 20000 in
theorem lettersLR_c (s : ByteArray) (hs : s.size ≤ maxLen) (m : Nat) (hm : m ≤ 100) (w : World) :
    Calls Tryd.prog 22 #[.string s, .string ⟨#[76, 82]⟩, .int .i64 m] w fun e w' => e = .returned (.string ⟨(lts 76 82 m s).toArray⟩) ∧ Keeps w w' := by
  obtain ⟨i0, hi, hz0, hz1, hz2⟩ := info_parts infoB
  unfold maxLen at hs
  go_enter Tryd.func22, Tryd.ntmps22
  go_wp2_with fail
  go_loopw [7, 8] (fun v i wr => ∃ k : Nat, k ≤ s.size ∧ k ≤ m ∧ i = .int .i64 k ∧ wr.ownsRow w.heap.size 5 1 v (lts 76 82 k s).length (bytes (lts 76 82 k s)) ∧ Keeps w wr) (fun _ i _ => s.size - (intOf i).toNat)
  case atStart => exact ⟨0, Nat.zero_le _, Nat.zero_le _, rfl, World.ownsRow_nil _ _ _ _, Below.refl _ _⟩
  case round =>
    obtain ⟨k, hk, hkm, rfl, hown, hb⟩ := hrel
    by_cases hlt : k < s.size
    · have hkI : (k : Int) < s.size := by omega
      by_cases hmt : k < m
      · have hmI : (k : Int) < m := by omega
        have hq : s[k]? = some s[k] := by simp [hlt]
        have Hsn := Lib.hid (lts_snoc 76 82 k s hlt)
        have hlen := lts_len 76 82 k s
        have hws := hb.size
        generalize lts 76 82 k s = L at *
        have hr2 : s[k].toNat % 2 = 0 ∨ s[k].toNat % 2 = 1 := by omega
        rcases hr2 with hr | hr
        · have hl : ltF 76 82 s[k] = 76 := by unfold ltF; rw [hr]; rfl
          have hr3 : ((s[k].toNat : Nat) : Int).tmod 2 = 0 := by rw [Int.tmod_eq_emod_of_nonneg (by omega)]; omega
          have hr4 : ((s[k].toNat : Nat) : Int) % 2 = 0 := by omega
          rw [hl] at Hsn
          clear hl hr
          go_wp2_with (at_builtin; refine wpList_append_own _ rfl _ _ 64 rfl w.heap.size 5 i0 _ 1 1 Tryd.underlying64 hi hz0 hz1 hz2 rfl (by decide) _ L.length (bytes L) rfl (hown.alloc _) ⟨wr.heap.size, 0, none⟩ 1 1 (bytes [76]) rfl rfl (new_cells wr 5 (bytes [76]) wr.heap.size rfl) (bytes_one _) (by unfold maxLen; omega) (by omega) (by simp only [World.size_alloc]; omega) ?_; intro v' w4 hown4 hgrow4 _)
          go_roundw
          case rel => exact ⟨k + 1, by omega, by omega, by go_num, by rw [Hsn.out, List.length_append, bytes_append]; exact hown4, (Keeps.alloc hb _).grown hgrow4 (by simp; omega) (own_base hown)⟩
          case measure => simp [intOf]; omega
        · have hl : ltF 76 82 s[k] = 82 := by unfold ltF; rw [hr]; rfl
          have hr3 : ((s[k].toNat : Nat) : Int).tmod 2 = 1 := by rw [Int.tmod_eq_emod_of_nonneg (by omega)]; omega
          have hr4 : ((s[k].toNat : Nat) : Int) % 2 = 1 := by omega
          rw [hl] at Hsn
          clear hl hr
          go_wp2_with (at_builtin; refine wpList_append_own _ rfl _ _ 64 rfl w.heap.size 5 i0 _ 1 1 Tryd.underlying64 hi hz0 hz1 hz2 rfl (by decide) _ L.length (bytes L) rfl (hown.alloc _) ⟨wr.heap.size, 0, none⟩ 1 1 (bytes [82]) rfl rfl (new_cells wr 5 (bytes [82]) wr.heap.size rfl) (bytes_one _) (by unfold maxLen; omega) (by omega) (by simp only [World.size_alloc]; omega) ?_; intro v' w4 hown4 hgrow4 _)
          go_roundw
          case rel => exact ⟨k + 1, by omega, by omega, by go_num, by rw [Hsn.out, List.length_append, bytes_append]; exact hown4, (Keeps.alloc hb _).grown hgrow4 (by simp; omega) (own_base hown)⟩
          case measure => simp [intOf]; omega
      · obtain rfl : k = m := by omega
        have hs2 := str_own hown
        go_wp2_with fail
        go_ret
        exact ⟨rfl, hb⟩
    · have hks : k = s.size := by omega
      have hall : lts 76 82 m s = lts 76 82 k s := by
        unfold lts
        rw [List.take_of_length_le (by rw [Array.length_toList]; show s.size ≤ m; omega), List.take_of_length_le (by rw [Array.length_toList]; show s.size ≤ k; omega)]
      have hs2 := str_own hown
      rw [← hall] at hs2
      have hnI : ¬ ((k : Int) < s.size) := by omega
      go_wp2_with fail
      go_ret
      exact ⟨rfl, hb⟩
set_option maxHeartbeats 4000000 in
set_option maxRecDepth 20000 in
theorem lettersab_c (s : ByteArray) (hs : s.size ≤ maxLen) (m : Nat) (hm : m ≤ 100) (w : World) :
    Calls Tryd.prog 22 #[.string s, .string ⟨#[97, 98]⟩, .int .i64 m] w fun e w' => e = .returned (.string ⟨(lts 97 98 m s).toArray⟩) ∧ Keeps w w' := by
  obtain ⟨i0, hi, hz0, hz1, hz2⟩ := info_parts infoB
  unfold maxLen at hs
  go_enter Tryd.func22, Tryd.ntmps22
  go_wp2_with fail
  go_loopw [7, 8] (fun v i wr => ∃ k : Nat, k ≤ s.size ∧ k ≤ m ∧ i = .int .i64 k ∧ wr.ownsRow w.heap.size 5 1 v (lts 97 98 k s).length (bytes (lts 97 98 k s)) ∧ Keeps w wr) (fun _ i _ => s.size - (intOf i).toNat)
  case atStart => exact ⟨0, Nat.zero_le _, Nat.zero_le _, rfl, World.ownsRow_nil _ _ _ _, Below.refl _ _⟩
  case round =>
    obtain ⟨k, hk, hkm, rfl, hown, hb⟩ := hrel
    by_cases hlt : k < s.size
    · have hkI : (k : Int) < s.size := by omega
      by_cases hmt : k < m
      · have hmI : (k : Int) < m := by omega
        have hq : s[k]? = some s[k] := by simp [hlt]
        have Hsn := Lib.hid (lts_snoc 97 98 k s hlt)
        have hlen := lts_len 97 98 k s
        have hws := hb.size
        generalize lts 97 98 k s = L at *
        have hr2 : s[k].toNat % 2 = 0 ∨ s[k].toNat % 2 = 1 := by omega
        rcases hr2 with hr | hr
        · have hl : ltF 97 98 s[k] = 97 := by unfold ltF; rw [hr]; rfl
          have hr3 : ((s[k].toNat : Nat) : Int).tmod 2 = 0 := by rw [Int.tmod_eq_emod_of_nonneg (by omega)]; omega
          have hr4 : ((s[k].toNat : Nat) : Int) % 2 = 0 := by omega
          rw [hl] at Hsn
          clear hl hr
          go_wp2_with (at_builtin; refine wpList_append_own _ rfl _ _ 64 rfl w.heap.size 5 i0 _ 1 1 Tryd.underlying64 hi hz0 hz1 hz2 rfl (by decide) _ L.length (bytes L) rfl (hown.alloc _) ⟨wr.heap.size, 0, none⟩ 1 1 (bytes [97]) rfl rfl (new_cells wr 5 (bytes [97]) wr.heap.size rfl) (bytes_one _) (by unfold maxLen; omega) (by omega) (by simp only [World.size_alloc]; omega) ?_; intro v' w4 hown4 hgrow4 _)
          go_roundw
          case rel => exact ⟨k + 1, by omega, by omega, by go_num, by rw [Hsn.out, List.length_append, bytes_append]; exact hown4, (Keeps.alloc hb _).grown hgrow4 (by simp; omega) (own_base hown)⟩
          case measure => simp [intOf]; omega
        · have hl : ltF 97 98 s[k] = 98 := by unfold ltF; rw [hr]; rfl
          have hr3 : ((s[k].toNat : Nat) : Int).tmod 2 = 1 := by rw [Int.tmod_eq_emod_of_nonneg (by omega)]; omega
          have hr4 : ((s[k].toNat : Nat) : Int) % 2 = 1 := by omega
          rw [hl] at Hsn
          clear hl hr
          go_wp2_with (at_builtin; refine wpList_append_own _ rfl _ _ 64 rfl w.heap.size 5 i0 _ 1 1 Tryd.underlying64 hi hz0 hz1 hz2 rfl (by decide) _ L.length (bytes L) rfl (hown.alloc _) ⟨wr.heap.size, 0, none⟩ 1 1 (bytes [98]) rfl rfl (new_cells wr 5 (bytes [98]) wr.heap.size rfl) (bytes_one _) (by unfold maxLen; omega) (by omega) (by simp only [World.size_alloc]; omega) ?_; intro v' w4 hown4 hgrow4 _)
          go_roundw
          case rel => exact ⟨k + 1, by omega, by omega, by go_num, by rw [Hsn.out, List.length_append, bytes_append]; exact hown4, (Keeps.alloc hb _).grown hgrow4 (by simp; omega) (own_base hown)⟩
          case measure => simp [intOf]; omega
      · obtain rfl : k = m := by omega
        have hs2 := str_own hown
        go_wp2_with fail
        go_ret
        exact ⟨rfl, hb⟩
    · have hks : k = s.size := by omega
      have hall : lts 97 98 m s = lts 97 98 k s := by
        unfold lts
        rw [List.take_of_length_le (by rw [Array.length_toList]; show s.size ≤ m; omega), List.take_of_length_le (by rw [Array.length_toList]; show s.size ≤ k; omega)]
      have hs2 := str_own hown
      rw [← hall] at hs2
      have hnI : ¬ ((k : Int) < s.size) := by omega
      go_wp2_with fail
      go_ret
      exact ⟨rfl, hb⟩
end Go.Proofs.YteffkcnlipdgaaaDoor
