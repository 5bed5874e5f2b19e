/- The reference's Letters, IsPath, IsWord; the law's brief. -/
import Derived.Test.YtnlogppdnfhelaaDoorVc
namespace Go.Proofs.YtnlogppdnfhelaaDoor
open Go.RowKit
set_option linter.unusedVariables false
set_option linter.unusedSimpArgs false

theorem byte_eq (c d : UInt8) : (c == d) = !(((c.toNat : Nat) : Int) != ((d.toNat : Nat) : Int)) := by
  rw [bne, Bool.not_not, Bool.eq_iff_iff, beq_iff_eq, beq_iff_eq]
  constructor
  · intro h; rw [h]
  · intro h; apply UInt8.toNat_inj.1; omega
set_option maxHeartbeats 2000000 in
set_option maxRecDepth 20000 in
theorem Letters_c (s : ByteArray) (hs : s.size ≤ 100) (p q : UInt8) (w : World) :
    Calls Tryd.prog 40 #[.string s, .int .u8 p.toNat, .int .u8 q.toNat] w fun e w' => e = .returned (.bool (s.data.toList.all fun c => [p, q].contains c)) ∧ Keeps w w' := by
  go_enter Tryd.func40, Tryd.ntmps40
  go_wp2_with fail
  go_loopw [7] (fun s7 wr => ∃ k : Nat, k ≤ s.size ∧ s7 = .int .i64 k ∧ ((s.data.toList.take k).all fun c => [p, q].contains c) = true ∧ Keeps w wr) (fun s7 _ => s.size - (intOf s7).toNat)
  case atStart => exact ⟨0, Nat.zero_le _, rfl, rfl, Below.refl _ _⟩
  case round =>
    obtain ⟨k, hk, rfl, hn, hkr⟩ := hrel
    by_cases hlt : k < s.size
    · have hkI : (k : Int) < s.size := by omega
      have hq : s[k]? = some s[k] := by simp [hlt]
      cases hB1 : (((s[k].toNat : Nat) : Int) != ((p.toNat : Nat) : Int)) <;> cases hB2 : (((s[k].toNat : Nat) : Int) != ((q.toNat : Nat) : Int))
      · have hc : ([p, q].contains s[k]) = true := by simp only [List.contains_cons, List.contains_nil, Bool.or_false]; rw [byte_eq, byte_eq, hB1, hB2]; rfl
        have hn2 := all_snoc s k hlt hn hc
        have Hn2 := Lib.hid hn2
        clear hn2 hn hc
        go_wp2_with fail
        go_roundw
        case rel => exact ⟨k + 1, by omega, by go_num, Hn2.out, hkr⟩
        case measure => simp [intOf]; omega
      · have hc : ([p, q].contains s[k]) = true := by simp only [List.contains_cons, List.contains_nil, Bool.or_false]; rw [byte_eq, byte_eq, hB1, hB2]; rfl
        have hn2 := all_snoc s k hlt hn hc
        have Hn2 := Lib.hid hn2
        clear hn2 hn hc
        go_wp2_with fail
        go_roundw
        case rel => exact ⟨k + 1, by omega, by go_num, Hn2.out, hkr⟩
        case measure => simp [intOf]; omega
      · have hc : ([p, q].contains s[k]) = true := by simp only [List.contains_cons, List.contains_nil, Bool.or_false]; rw [byte_eq, byte_eq, hB1, hB2]; rfl
        have hn2 := all_snoc s k hlt hn hc
        have Hn2 := Lib.hid hn2
        clear hn2 hn hc
        go_wp2_with fail
        go_roundw
        case rel => exact ⟨k + 1, by omega, by go_num, Hn2.out, hkr⟩
        case measure => simp [intOf]; omega
      · have hc : ([p, q].contains s[k]) = false := by simp only [List.contains_cons, List.contains_nil, Bool.or_false]; rw [byte_eq, byte_eq, hB1, hB2]; rfl
        have hbad : (s.data.toList.all fun c => [p, q].contains c) = false := by
          rw [List.all_eq_false]
          exact ⟨s[k], by show s.data[k] ∈ _; simp, by rw [hc]; simp⟩
        have Hbad := Lib.hid hbad
        clear hbad hc hn
        go_wp2_with fail
        go_ret
        exact ⟨by rw [Hbad.out]; rfl, hkr⟩
    · obtain rfl : k = s.size := by omega
      have hall : s.data.toList.take s.size = s.data.toList := List.take_of_length_le (by rw [Array.length_toList]; exact Nat.le_refl _)
      rw [hall] at hn
      have Hn := Lib.hid hn
      clear hn hall
      go_wp2_with fail
      go_ret
      exact ⟨by rw [Hn.out]; rfl, hkr⟩
set_option maxHeartbeats 1000000 in
theorem refIsPath_c (s : ByteArray) (hs : s.size ≤ 100) (w : World) : Calls Tryd.prog 22 #[.string s] w fun e w' => e = .returned (.bool (pathB s)) ∧ Keeps w w' := by
  unfold pathB
  have cL := fun W => Letters_c s hs 76 82 W
  simp only [show (UInt8.toNat 76 : Int) = 76 from rfl, show (UInt8.toNat 82 : Int) = 82 from rfl] at cL
  cases hd : decide (s.size ≤ 60)
  · have hd2 : ¬ ((s.size : Int) ≤ 60) := by have := of_decide_eq_false hd; omega
    go_enter Tryd.func22, Tryd.ntmps22
    go_wp2_with fail
    go_ret
    exact ⟨by simp, Below.refl _ _⟩
  · have hd2 : (s.size : Int) ≤ 60 := by have := of_decide_eq_true hd; omega
    rw [Bool.true_and]
    generalize (s.data.toList.all fun c => [76, 82].contains c) = B at *
    clear hd
    go_enter Tryd.func22, Tryd.ntmps22
    go_wp2_with (go_at_call 40; refine (cL _).mono ?_; rintro e w1 ⟨rfl, h1⟩)
    go_ret
    exact ⟨rfl, h1⟩
set_option maxHeartbeats 1000000 in
theorem refIsWord_c (s : ByteArray) (hs : s.size ≤ 100) (w : World) : Calls Tryd.prog 25 #[.string s] w fun e w' => e = .returned (.bool (phraseB s)) ∧ Keeps w w' := by
  unfold phraseB
  have cL := fun W => Letters_c s hs 97 98 W
  simp only [show (UInt8.toNat 97 : Int) = 97 from rfl, show (UInt8.toNat 98 : Int) = 98 from rfl] at cL
  cases hd : decide (s.size ≤ 40)
  · have hd2 : ¬ ((s.size : Int) ≤ 40) := by have := of_decide_eq_false hd; omega
    go_enter Tryd.func25, Tryd.ntmps25
    go_wp2_with fail
    go_ret
    exact ⟨by simp, Below.refl _ _⟩
  · have hd2 : (s.size : Int) ≤ 40 := by have := of_decide_eq_true hd; omega
    rw [Bool.true_and]
    generalize (s.data.toList.all fun c => [97, 98].contains c) = B at *
    clear hd
    go_enter Tryd.func25, Tryd.ntmps25
    go_wp2_with (go_at_call 40; refine (cL _).mono ?_; rintro e w1 ⟨rfl, h1⟩)
    go_ret
    exact ⟨rfl, h1⟩
/-- What the law makes of a string. -/
def brf (s : ByteArray) : ByteArray := s.extract 0 (min (s.size : Int) 61).toNat
theorem brf_size (s : ByteArray) : (brf s).size ≤ 61 := by
  unfold brf
  rw [ByteArray.size_extract]
  omega
set_option maxHeartbeats 1000000 in
theorem brief_c (s : ByteArray) (hs : s.size ≤ maxLen) (w : World) : Calls Tryd.prog 20 #[.string s] w fun e w' => e = .returned (.string (brf s)) ∧ w = w' := by
  unfold maxLen at hs
  go_enter Tryd.func20, Tryd.ntmps20
  go_wp2_with fail
  go_ret
  exact ⟨rfl, rfl⟩
end Go.Proofs.YtnlogppdnfhelaaDoor
