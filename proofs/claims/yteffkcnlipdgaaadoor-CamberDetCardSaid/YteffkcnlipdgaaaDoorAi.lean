/- The words of paths; the walk of grown over texts. -/
import Derived.Test.YteffkcnlipdgaaaDoorAh
import Derived.Handy
import Derived.Scope
namespace Go.Proofs.YteffkcnlipdgaaaDoor
open Go.RowKit
set_option linter.unusedVariables false
set_option linter.unusedSimpArgs false

theorem run_add {P : Program} {w : World} (x y : List UInt8) (h : x.length + y.length ≤ 9223372036854775807) : (Op.stringOp .add ⟨x.toArray⟩ ⟨y.toArray⟩).run P w = .ok (.string ⟨(x ++ y).toArray⟩) w := by
  rw [run_string_add_sum w _ _ (by simp [ByteArray.size]; omega), ByteArray.mk_append_mk]
/-- The pair of words after a letter. -/
def stepW (p : List UInt8 × List UInt8) (c : UInt8) : List UInt8 × List UInt8 := if (decide (p.1.length ≤ p.2.length) == (c == 76)) = true then (p.1 ++ p.2, p.2) else (p.1, p.1 ++ p.2)
def wrdP (l : List UInt8) : List UInt8 × List UInt8 := l.foldl stepW ([97], [98])
def wrd (l : List UInt8) : List UInt8 := (wrdP l).1 ++ (wrdP l).2
def wln (p : List UInt8 × List UInt8) : Nat := p.1.length + p.2.length
theorem wrd_len (l : List UInt8) : (wrd l).length = wln (wrdP l) := by simp [wrd, wln]
theorem stepW_len (p : List UInt8 × List UInt8) (c : UInt8) : wln p ≤ wln (stepW p c) ∧ wln (stepW p c) ≤ 2 * wln p := by
  unfold wln stepW
  split <;> simp <;> omega
theorem fold_len (l : List UInt8) : ∀ p, wln p ≤ wln (l.foldl stepW p) := by
  induction l with
  | nil => intro p; exact Nat.le_refl _
  | cons c l ih => intro p; exact Nat.le_trans (stepW_len p c).1 (ih _)
theorem wrdP_snoc (s : ByteArray) (k : Nat) (hk : k < s.size) : wrdP (s.data.toList.take (k + 1)) = stepW (wrdP (s.data.toList.take k)) s[k] := by
  rw [take_snoc s k hk]; simp [wrdP]
theorem wrdP_le (l : List UInt8) (k : Nat) : wln (wrdP (l.take k)) ≤ wln (wrdP l) := by
  have h := fold_len (l.drop k) (wrdP (l.take k))
  have e : (l.drop k).foldl stepW (wrdP (l.take k)) = wrdP l := by
    unfold wrdP
    rw [← List.foldl_append, List.take_append_drop]
  rw [e] at h
  exact h
set_option maxHeartbeats 1000000 in
theorem and_c (x y : List UInt8) (h : x.length + y.length ≤ 1000) (w : World) : Calls Tryd.prog 103 #[.string ⟨x.toArray⟩, .string ⟨y.toArray⟩] w fun e w' => e = .returned (.string ⟨(x ++ y).toArray⟩) ∧ Keeps w w' := by
  have ha := fun W => run_add (P := Tryd.prog) (w := W) x y (by omega)
  go_enter Tryd.func103, Tryd.ntmps103
  go_wp2_with fail
  go_ret
  exact ⟨rfl, Below.refl _ _⟩
theorem length_c (x : List UInt8) (w : World) : Calls Tryd.prog 104 #[.string ⟨x.toArray⟩] w fun e w' => e = .returned (.int .i64 x.length) ∧ Keeps w w' := by
  go_enter Tryd.func104, Tryd.ntmps104
  go_wp2_with fail
  go_ret
  exact ⟨by first | rfl | simp [ByteArray.size], Below.refl _ _⟩
set_option maxHeartbeats 4000000 in
set_option maxRecDepth 20000 in
theorem grown_c (s : ByteArray) (hs : s.size ≤ 60) (w : World) :
    Calls Tryd.prog 43 #[.string s, .string ⟨#[97]⟩, .string ⟨#[98]⟩, .int .i64 40] w fun e w' => ∃ wd : ByteArray, e = .returned (.tuple #[.string wd, .bool (decide ((wrd s.data.toList).length ≤ 40))]) ∧ ((wrd s.data.toList).length ≤ 40 → wd = ⟨(wrd s.data.toList).toArray⟩) ∧ Keeps w w' := by
  have cA := fun W => and_c [97] [98] (by decide) W
  go_enter Tryd.func43, Tryd.ntmps43
  go_wp2_with fail
  refine wp_scope_straight ?_
  go_wp2_with (go_at_call 103; refine (cA _).mono ?_; rintro e w1 ⟨rfl, h1⟩)
  refine wp_label ?_
  simp only [Exit.then]
  go_wp2_with fail
  go_loopw [1, 2, 8, 18] (fun s1 s2 s8 s18 wr => ∃ (u v : List UInt8) (k : Nat), s1 = .string ⟨u.toArray⟩ ∧ s2 = .string ⟨v.toArray⟩ ∧ s8 = .string ⟨(u ++ v).toArray⟩ ∧ s18 = .int .i64 k ∧ k ≤ s.size ∧ (u, v) = wrdP (s.data.toList.take k) ∧ u.length + v.length ≤ 80 ∧ Keeps w wr) (fun _ _ _ s18 _ => s.size - (intOf s18).toNat)
  case atStart => exact ⟨[97], [98], 0, rfl, rfl, rfl, rfl, Nat.zero_le _, rfl, by decide, h1⟩
  case round =>
    obtain ⟨u, v, k, rfl, rfl, rfl, rfl, hk, huv, hl, hkr⟩ := hrel
    by_cases hlt : k < s.size
    · have hkI : (k : Int) < s.size := by omega
      have cU := length_c u
      have cV := length_c v
      have cW := length_c (u ++ v)
      have hat : s[k]? = some s[k] := by simp [hlt]
      have hwl : (wrd (s.data.toList.take k)).length = u.length + v.length := by rw [wrd_len, ← huv]; rfl
      have hww := wrdP_le s.data.toList k
      rw [← wrd_len, ← wrd_len, hwl] at hww
      have huvl : (u ++ v).length = u.length + v.length := List.length_append
      by_cases h40 : 40 < u.length + v.length
      · have hd : decide ((40 : Int) < (u.length : Int) + v.length) = true := by simp; omega
        have hd2 : decide ((u.length : Int) + v.length ≤ 40) = false := by simp; omega
        have hbad : decide ((wrd s.data.toList).length ≤ 40) = false := by simp; omega
        have hn : ¬ ((wrd s.data.toList).length ≤ 40) := by omega
        have Hn := Lib.hid hn
        have Hbad := Lib.hid hbad
        clear cA hwl hww h40 hl hbad hn huv
        go_wp2_with (first
          | (go_at_call 104; (with_reducible refine (cW _).mono ?_); rintro e w3 ⟨rfl, h3⟩; have hkr := Keeps.next hkr h3)
          | (go_at_call 104; (with_reducible refine (cU _).mono ?_); rintro e w4 ⟨rfl, h4⟩; have hkr := Keeps.next hkr h4)
          | (go_at_call 104; (with_reducible refine (cV _).mono ?_); rintro e w5 ⟨rfl, h5⟩; have hkr := Keeps.next hkr h5))
        simp only [Exit.inBlock, Exit.then, Exit.noGoto]
        go_ret2
        exact ⟨⟨(u ++ v).toArray⟩, by rw [Hbad.out]; rfl, fun h => absurd h Hn.out, hkr⟩
      · have hd : decide ((40 : Int) < (u.length : Int) + v.length) = false := by simp; omega
        have hbyte : (s[k] == 76) = (((s[k].toNat : Nat) : Int) == 76) := by
          rw [Bool.eq_iff_iff, beq_iff_eq, beq_iff_eq]
          constructor
          · intro h; rw [h]; rfl
          · intro h; apply UInt8.toNat_inj.1; have e76 : UInt8.toNat 76 = 76 := rfl; omega
        cases hB1 : decide (u.length ≤ v.length) <;> cases hB2 : (((s[k].toNat : Nat) : Int) == 76)
        · have hst : wrdP (s.data.toList.take (k + 1)) = (u ++ v, v) := by
            rw [wrdP_snoc s k hlt, ← huv, stepW]
            rw [if_pos (by have := of_decide_eq_false hB1; rw [hbyte, hB2]; simp; omega)]
          have cN := fun W => and_c (u ++ v) (v) (by simp; omega) W
          have hl2 : (u ++ v).length + (v).length ≤ 80 := by simp; omega
          have Hst := Lib.hid hst
          have Hl2 := Lib.hid hl2
          clear cA hww hwl hl huv hst hl2 hbyte
          go_wp2_with (first
          | (go_at_call 104; (with_reducible refine (cW _).mono ?_); rintro e w3 ⟨rfl, h3⟩; have hkr := Keeps.next hkr h3)
          | (go_at_call 104; (with_reducible refine (cU _).mono ?_); rintro e w4 ⟨rfl, h4⟩; have hkr := Keeps.next hkr h4)
          | (go_at_call 104; (with_reducible refine (cV _).mono ?_); rintro e w5 ⟨rfl, h5⟩; have hkr := Keeps.next hkr h5)
          | (go_at_call 103; refine (cN _).mono ?_; rintro e w6 ⟨rfl, h6⟩; have hkr := Keeps.next hkr h6))
          go_roundw
          case rel => exact ⟨u ++ v, v, k + 1, rfl, rfl, by first | rfl | rw [List.append_assoc], by go_num, by omega, Hst.out.symm, Hl2.out, hkr⟩
          case measure => simp [intOf]; omega
        · have hst : wrdP (s.data.toList.take (k + 1)) = (u, u ++ v) := by
            rw [wrdP_snoc s k hlt, ← huv, stepW]
            rw [if_neg (by have := of_decide_eq_false hB1; rw [hbyte, hB2]; simp; omega)]
          have cN := fun W => and_c (u) (u ++ v) (by simp; omega) W
          have hl2 : (u).length + (u ++ v).length ≤ 80 := by simp; omega
          have Hst := Lib.hid hst
          have Hl2 := Lib.hid hl2
          clear cA hww hwl hl huv hst hl2 hbyte
          go_wp2_with (first
          | (go_at_call 104; (with_reducible refine (cW _).mono ?_); rintro e w3 ⟨rfl, h3⟩; have hkr := Keeps.next hkr h3)
          | (go_at_call 104; (with_reducible refine (cU _).mono ?_); rintro e w4 ⟨rfl, h4⟩; have hkr := Keeps.next hkr h4)
          | (go_at_call 104; (with_reducible refine (cV _).mono ?_); rintro e w5 ⟨rfl, h5⟩; have hkr := Keeps.next hkr h5)
          | (go_at_call 103; refine (cN _).mono ?_; rintro e w6 ⟨rfl, h6⟩; have hkr := Keeps.next hkr h6))
          go_roundw
          case rel => exact ⟨u, u ++ v, k + 1, rfl, rfl, by first | rfl | rw [List.append_assoc], by go_num, by omega, Hst.out.symm, Hl2.out, hkr⟩
          case measure => simp [intOf]; omega
        · have hst : wrdP (s.data.toList.take (k + 1)) = (u, u ++ v) := by
            rw [wrdP_snoc s k hlt, ← huv, stepW]
            rw [if_neg (by have := of_decide_eq_true hB1; rw [hbyte, hB2]; simp; omega)]
          have cN := fun W => and_c (u) (u ++ v) (by simp; omega) W
          have hl2 : (u).length + (u ++ v).length ≤ 80 := by simp; omega
          have Hst := Lib.hid hst
          have Hl2 := Lib.hid hl2
          clear cA hww hwl hl huv hst hl2 hbyte
          go_wp2_with (first
          | (go_at_call 104; (with_reducible refine (cW _).mono ?_); rintro e w3 ⟨rfl, h3⟩; have hkr := Keeps.next hkr h3)
          | (go_at_call 104; (with_reducible refine (cU _).mono ?_); rintro e w4 ⟨rfl, h4⟩; have hkr := Keeps.next hkr h4)
          | (go_at_call 104; (with_reducible refine (cV _).mono ?_); rintro e w5 ⟨rfl, h5⟩; have hkr := Keeps.next hkr h5)
          | (go_at_call 103; refine (cN _).mono ?_; rintro e w6 ⟨rfl, h6⟩; have hkr := Keeps.next hkr h6))
          go_roundw
          case rel => exact ⟨u, u ++ v, k + 1, rfl, rfl, by first | rfl | rw [List.append_assoc], by go_num, by omega, Hst.out.symm, Hl2.out, hkr⟩
          case measure => simp [intOf]; omega
        · have hst : wrdP (s.data.toList.take (k + 1)) = (u ++ v, v) := by
            rw [wrdP_snoc s k hlt, ← huv, stepW]
            rw [if_pos (by have := of_decide_eq_true hB1; rw [hbyte, hB2]; simp; omega)]
          have cN := fun W => and_c (u ++ v) (v) (by simp; omega) W
          have hl2 : (u ++ v).length + (v).length ≤ 80 := by simp; omega
          have Hst := Lib.hid hst
          have Hl2 := Lib.hid hl2
          clear cA hww hwl hl huv hst hl2 hbyte
          go_wp2_with (first
          | (go_at_call 104; (with_reducible refine (cW _).mono ?_); rintro e w3 ⟨rfl, h3⟩; have hkr := Keeps.next hkr h3)
          | (go_at_call 104; (with_reducible refine (cU _).mono ?_); rintro e w4 ⟨rfl, h4⟩; have hkr := Keeps.next hkr h4)
          | (go_at_call 104; (with_reducible refine (cV _).mono ?_); rintro e w5 ⟨rfl, h5⟩; have hkr := Keeps.next hkr h5)
          | (go_at_call 103; refine (cN _).mono ?_; rintro e w6 ⟨rfl, h6⟩; have hkr := Keeps.next hkr h6))
          go_roundw
          case rel => exact ⟨u ++ v, v, k + 1, rfl, rfl, by first | rfl | rw [List.append_assoc], by go_num, by omega, Hst.out.symm, Hl2.out, hkr⟩
          case measure => simp [intOf]; omega
    · obtain rfl : k = s.size := by omega
      have hall : s.data.toList.take s.size = s.data.toList := List.take_of_length_le (by rw [Array.length_toList]; exact Nat.le_refl _)
      rw [hall] at huv
      have hw : wrd s.data.toList = u ++ v := by unfold wrd; rw [← huv]
      have cW := length_c (u ++ v)
      have Hw := Lib.hid hw
      clear cA hw huv hall hl
      go_wp2_with (go_at_call 104; refine (cW _).mono ?_; rintro e w3 ⟨rfl, h3⟩; have hkr := Keeps.next hkr h3)
      simp only [Exit.inBlock, Exit.then, Exit.noGoto]
      go_ret2
      exact ⟨⟨(u ++ v).toArray⟩, by rw [show decide ((wrd s.data.toList).length ≤ 40) = decide ((u.length : Int) + v.length ≤ 40) by rw [Hw.out, List.length_append]; exact decide_eq_decide.2 (by omega)]; rfl, fun _ => by rw [Hw.out], hkr⟩
end Go.Proofs.YteffkcnlipdgaaaDoor
