/- The law's brief; the reference's Side. -/
import Derived.Test.YtngonghgkeobhaaBv
namespace Go.Proofs.Ytngonghgkeobhaa
open Go.RowKit Go.Shelf
set_option linter.unusedVariables false
set_option linter.unusedSimpArgs false

def briefS (s : ByteArray) : ByteArray := if s.size ≤ 13 then s else s.extract 0 13
theorem brief_size (s : ByteArray) : (briefS s).size ≤ 13 := by
  unfold briefS
  split
  · assumption
  · rw [ByteArray.size_extract]; omega
set_option maxHeartbeats 4000000 in
set_option maxRecDepth 100000 in
theorem rside_c (n : Int) (s : ByteArray) (hm : s.size ≤ 13) (w : World) :
    Calls Try.prog 18 #[.int .i64 n, .string s] w fun e w' => e = .returned (.bool (sideB n s)) ∧ ∃ m, w' = w.drewN m := by
  go_enter Try.func18, Try.ntmps18
  go_wp2_with fail
  go_loopw [5] (fun i wr => ∃ k : Nat, k ≤ s.size ∧ (∀ j, j < k → (s.data.toList[j]?.map okC) = some true) ∧ i = .int .i64 k ∧ ∃ m, wr = w.drewN m) (fun i _ => s.size - (intOf i).toNat)
  case atStart => exact ⟨0, Nat.zero_le _, fun j hj => absurd hj (Nat.not_lt_zero _), rfl, 0, rfl⟩
  case round =>
    obtain ⟨k, hk, hgo, rfl, m, rfl⟩ := hrel
    by_cases hlt : k < s.size
    · have hsk : s.data.toList[k]? = some s[k] := by
        rw [List.getElem?_eq_getElem (by simpa using hlt)]
        simp [ByteArray.getElem_eq_getElem_data]
      have Hgo := Lib.hid hgo
      have hkI : (k : Int) < (s.size : Int) := by omega
      clear hgo
      by_cases h0 : s[k] = 48
      · have q0 : ((s[k].toNat : Int) != 48) = false := by rw [h0]; rfl
        go_wp2_with fail
        go_roundw
        case rel =>
          refine ⟨k + 1, hlt, fun j hj => ?_, by go_num, _, rfl⟩
          by_cases e : j = k
          · subst e; rw [hsk, h0]; rfl
          · exact Hgo.out j (by omega)
        case measure => simp [intOf]; omega
      · have q0 : ((s[k].toNat : Int) != 48) = true := by
          rw [bne_iff_ne]; intro e; exact h0 (UInt8.toNat_inj.1 (by simpa using (by exact_mod_cast e : s[k].toNat = 48)))
        by_cases h1 : s[k] = 49
        · have q1 : ((s[k].toNat : Int) != 49) = false := by rw [h1]; rfl
          go_wp2_with fail
          go_roundw
          case rel =>
            refine ⟨k + 1, hlt, fun j hj => ?_, by go_num, _, rfl⟩
            by_cases e : j = k
            · subst e; rw [hsk, h1]; rfl
            · exact Hgo.out j (by omega)
          case measure => simp [intOf]; omega
        · have q1 : ((s[k].toNat : Int) != 49) = true := by
            rw [bne_iff_ne]; intro e; exact h1 (UInt8.toNat_inj.1 (by simpa using (by exact_mod_cast e : s[k].toNat = 49)))
          have hB : sideB n s = false := by
            unfold sideB
            rw [show s.data.toList.all okC = false from List.all_eq_false.2 ⟨s[k], List.mem_of_getElem? hsk, by simp [okC, h0, h1]⟩, Bool.and_false]
          have HB := Lib.hid hB
          clear hB
          go_wp2_with fail
          go_ret
          exact ⟨ret_bool HB.out.symm, _, rfl⟩
    · obtain rfl : k = s.size := by omega
      have hall : s.data.toList.all okC = true := List.all_eq_true.2 fun c hc => by
        obtain ⟨j, hj, rfl⟩ := List.getElem_of_mem hc
        have := hgo j (by simpa using hj)
        rw [List.getElem?_eq_getElem hj] at this
        simpa using this
      have hB : sideB n s = decide ((s.size : Int) = n) := by unfold sideB; rw [hall, Bool.and_true]
      have HB := Lib.hid hB
      clear hB hall hgo
      go_wp2_with fail
      go_ret
      exact ⟨ret_bool (by rw [HB.out]; first | rfl | simp), m, rfl⟩
end Go.Proofs.Ytngonghgkeobhaa
