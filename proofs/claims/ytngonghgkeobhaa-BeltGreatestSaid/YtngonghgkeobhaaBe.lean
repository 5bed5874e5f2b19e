/- The walk of readSide and of newGraphWithSide. -/
import Derived.Test.YtngonghgkeobhaaBd
namespace Go.Proofs.Ytngonghgkeobhaa
open Go.RowKit
set_option linter.unusedVariables false
set_option linter.unusedSimpArgs false

theorem flp_lt (s v : Nat) (h : s < 65536) : flp s v < 65536 := by
  have h1 := bt_lt v
  unfold flp
  exact Nat.xor_lt_two_pow (n := 16) h h1
/-- The side that the first k characters are. -/
def rdS (l : List UInt8) : Nat → Nat
  | 0 => 0
  | k + 1 => match l[k]? with
    | some c => if c = 49 then flp (rdS l k) k else rdS l k
    | none => rdS l k
theorem rdS_lt (l : List UInt8) : ∀ k, rdS l k < 65536
  | 0 => by simp [rdS]
  | k + 1 => by
    unfold rdS
    split
    · split
      · exact flp_lt _ _ (rdS_lt l k)
      · exact rdS_lt l k
    · exact rdS_lt l k
def okC (c : UInt8) : Bool := decide (c = 48) || decide (c = 49)
/-- 's is a side of n vertices'. -/
def sideB (n : Int) (s : ByteArray) : Bool := decide ((s.size : Int) = n) && s.data.toList.all okC
def SideIs (n : Int) (s : ByteArray) (e : Ending) : Prop :=
  (sideB n s = false ∧ e = .returned (.tuple #[.int .u16 0, .bool false])) ∨
  (sideB n s = true ∧ e = .returned (.tuple #[.int .u16 (rdS s.data.toList s.size), .bool true]))
set_option maxHeartbeats 4000000 in
set_option maxRecDepth 100000 in
theorem readSide_c (n : Int) (s : ByteArray) (hn : n ≤ 12) (w : World) :
    Calls Try.prog 51 #[.int .i64 n, .string s] w fun e w' => SideIs n s e ∧ Keeps w w' := by
  by_cases hz : (s.size : Int) = n
  rotate_left
  · have d1 : decide ((s.size : Int) ≠ n) = true := by simpa using hz
    have d2 : ((s.size : Int) != n) = true := by simpa using hz
    have hg : sideB n s = false := by unfold sideB; rw [decide_eq_false hz]; rfl
    go_enter Try.func51, Try.ntmps51
    go_wp2_with fail
    go_ret2
    exact ⟨.inl ⟨hg, rfl⟩, Below.refl _ _⟩
  subst hz
  have hsb : sideB (s.size : Int) s = s.data.toList.all okC := by unfold sideB; simp
  have HSB := Lib.hid hsb
  clear hsb
  go_enter Try.func51, Try.ntmps51
  go_wp2_with fail
  go_loopw [6, 13] (fun t i wr => ∃ k : Nat, k ≤ s.size ∧ (∀ j, j < k → (s.data.toList[j]?.map okC) = some true) ∧ i = .int .i64 k ∧ t = .int .u16 (rdS s.data.toList k) ∧ Keeps w wr) (fun _ i _ => s.size - (intOf i).toNat)
  case atStart => exact ⟨0, Nat.zero_le _, fun j hj => absurd hj (Nat.not_lt_zero _), rfl, rfl, Below.refl _ _⟩
  case round =>
    obtain ⟨k, hk, hgo, rfl, rfl, hb⟩ := hrel
    generalize wr = w0 at *
    have hr := rdS_lt s.data.toList k
    by_cases hlt : k < s.size
    rotate_left
    · obtain rfl : k = s.size := by omega
      have hkI : decide ((s.size : Int) < (s.size : Int)) = false := by simp
      have hall : s.data.toList.all okC = true := by
        rw [List.all_eq_true]
        intro c hc
        obtain ⟨j, hj, rfl⟩ := List.getElem_of_mem hc
        have := hgo j (by simpa using hj)
        rw [List.getElem?_eq_getElem hj] at this
        simpa using this
      clear hgo
      go_wp2_with fail
      go_ret2
      exact ⟨.inr ⟨by rw [HSB.out]; exact hall, rfl⟩, hb⟩
    have hkI : (k : Int) < (s.size : Int) := by omega
    have hx : s.data.toList[k]? = some s[k] := by
      rw [Array.getElem?_toList]; exact Array.getElem?_eq_getElem hlt
    have qk : IntKind.i64.wrap ((k : Int) + 1) = (k : Int) + 1 := IntWalk.i64_in _ (by omega)
    have fc := fun z => flipped_c (rdS s.data.toList k) k (by omega) hr z
    have hrs : rdS s.data.toList (k + 1) = if s[k] = 49 then flp (rdS s.data.toList k) k else rdS s.data.toList k := by
      show (match s.data.toList[k]? with | some c => if c = 49 then flp (rdS s.data.toList k) k else rdS s.data.toList k | none => rdS s.data.toList k) = _
      rw [hx]
    have HR := Lib.hid hrs
    clear hrs
    have HX := Lib.hid hx
    have HGO := Lib.hid hgo
    clear hx hgo
    generalize rdS s.data.toList k = S at *
    by_cases h0 : s[k] = 48
    · have q0 : ((s[k].toNat : Int) == 48) = true := by rw [h0]; rfl
      have q0' : decide ((s[k].toNat : Int) = 48) = true := by rw [h0]; rfl
      rw [h0] at HR
      go_wp2_with fail
      go_roundw
      case rel =>
        refine ⟨k + 1, hlt, fun j hj => ?_, by go_num, by rw [HR.out]; rfl, hb⟩
        by_cases e : j = k
        · subst e; rw [HX.out, h0]; rfl
        · exact HGO.out j (by omega)
      case measure => simp [intOf]; omega
    by_cases h1 : s[k] = 49
    · have q0 : ((s[k].toNat : Int) == 48) = false := by rw [h1]; rfl
      have q0' : decide ((s[k].toNat : Int) = 48) = false := by rw [h1]; rfl
      have q1 : ((s[k].toNat : Int) == 49) = true := by rw [h1]; rfl
      have q1' : decide ((s[k].toNat : Int) = 49) = true := by rw [h1]; rfl
      rw [h1] at HR
      go_wp2_with (go_at_call 41; refine (fc _).mono ?_; rintro e w2 ⟨rfl, rfl⟩)
      go_roundw
      case rel =>
        refine ⟨k + 1, hlt, fun j hj => ?_, by go_num, by rw [HR.out]; rfl, hb⟩
        by_cases e : j = k
        · subst e; rw [HX.out, h1]; rfl
        · exact HGO.out j (by omega)
      case measure => simp [intOf]; omega
    · have hne : ∀ c : UInt8, s[k] ≠ c → (s[k].toNat : Int) ≠ c.toNat := fun c h e => h (UInt8.toNat_inj.1 (by omega))
      have n0 : (s[k].toNat : Int) ≠ 48 := hne 48 h0
      have n1 : (s[k].toNat : Int) ≠ 49 := hne 49 h1
      have q0 : ((s[k].toNat : Int) == 48) = false := by simpa using n0
      have q0' : decide ((s[k].toNat : Int) = 48) = false := by simpa using n0
      have q1 : ((s[k].toNat : Int) == 49) = false := by simpa using n1
      have q1' : decide ((s[k].toNat : Int) = 49) = false := by simpa using n1
      have hg : sideB (s.size : Int) s = false := by
        rw [HSB.out, List.all_eq_false]
        refine ⟨s[k], List.mem_of_getElem? HX.out, ?_⟩
        simp [okC, h0, h1]
      go_wp2_with fail
      go_ret2
      exact ⟨.inl ⟨hg, rfl⟩, hb⟩
end Go.Proofs.Ytngonghgkeobhaa
