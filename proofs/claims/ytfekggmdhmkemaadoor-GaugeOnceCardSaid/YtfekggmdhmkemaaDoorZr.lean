/- The walks of Value and Plain, from what read tells; the parts of a text. -/
import Derived.Test.YtfekggmdhmkemaaDoorZq
import Derived.Test.YtfekggmdhmkemaaDoorGp
import Derived.Test.YtfekggmdhmkemaaDoorZm
namespace Go.Proofs.YtfekggmdhmkemaaDoor
open Go.RowKit
set_option linter.unusedVariables false
set_option linter.unusedSimpArgs false

set_option maxHeartbeats 1000000 in
theorem Value_ok (S : ByteArray) (D : List UInt8) (hdl : D.length = 80) (hok : ∀ c ∈ D, okD c) (r1 : ∀ z, Calls Tryd.prog 21 #[.string S] z fun e w' => e = .returned (.tuple #[.agg (dB D), .int .i64 0]) ∧ Keeps z w') (w : World) :
    Calls Tryd.prog 9 #[.string S] w fun e w' => e = .returned (.tuple #[.agg (gv (nofV (valG D))), .int .i64 (nofE (valG D))]) ∧ Keeps w w' := by
  have v1 := fun z => value_c D hdl hok z
  have n1 := fun z => numberOrFull_c (valG D) z
  have hz : Tryd.zeroCells44 = dB (List.replicate 80 0) := by kernel_rfl
  have a0 := At.new w 24 (gv (0, 0))
  have k0 : Keeps w (w.alloc (.cells (gv (0, 0)) 24)) := Keeps.alloc (Below.refl _ _) _
  have Hz := Lib.hid hz
  have Hd := Lib.hid hdl
  clear hz hdl hok
  generalize nofV (valG D) = nv at *
  generalize nofE (valG D) = ne at *
  generalize valG (D) = vv at *
  go_enter Tryd.func9, Tryd.ntmps9
  go_wp2_with (first
    | (go_at_call 21
       refine (r1 _).mono ?_
       rintro e w1 ⟨rfl, b1⟩
       have a1 := a0.later b1
       have g1 : At (w1.alloc (.cells Tryd.zeroCells44 44)) w1.heap.size 44 (dB (List.replicate 80 0)) := by rw [← Hz.out]; exact At.new w1 _ _
       have a2 := (a1.alloc (.cells Tryd.zeroCells44 44)).rowfar (by have := a1.lt; omega) (dB D) (g' := w1.heap.size)
       have g2 := g1.row (dB D)
       have k1 := Keeps.next k0 b1
       have k2 := below_row (Keeps.alloc k1 (.cells Tryd.zeroCells44 44)) k1.size (dB D))
    | (refine wpList_store_row rfl 44 _ _ rfl w1.heap.size (dB D) rfl rfl 44 _ g1 (sizeD _ Hd.out) (by rw [dB_size, dB_size, Hd.out]; simp) (oneD _) ?_)
    | (refine wpList_load_row rfl 44 _ rfl w1.heap.size rfl 44 _ _ _ g2 Tryd.underlying44 rfl (sizeD _ Hd.out) ?_)
    | (go_at_call 23
       refine (v1 _).mono ?_
       rintro e w3 ⟨rfl, b3⟩
       have a3 := a2.later b3
       have k3 := Keeps.next k2 b3)
    | (go_at_call 22
       refine (n1 _).mono ?_
       rintro e w4 ⟨rfl, b4⟩
       have a4 := a3.later b4
       have k4 := Keeps.next k3 b4)
    | (refine wpList_store_row rfl 24 _ _ rfl w.heap.size (gv nv) rfl rfl 24 _ a4 (sizeV _) rfl (oneV _) ?_))
  exact bodyPost_ret (results_row_tmp Tryd.results9 _ _ w.heap.size _ _ _ rfl (a4.row _) Tryd.underlying24 rfl (sizeV _)) rfl ⟨rfl, below_row k4 (Nat.le_refl _) _⟩
set_option maxHeartbeats 1000000 in
theorem Value_no (S : ByteArray) (r1 : ∀ z, Calls Tryd.prog 21 #[.string S] z fun e w' => e = .returned (.tuple #[.agg (dB (List.replicate 80 0)), .int .i64 4]) ∧ Keeps z w') (w : World) :
    Calls Tryd.prog 9 #[.string S] w fun e w' => e = .returned (.tuple #[.agg (gv (0, 0)), .int .i64 4]) ∧ Keeps w w' := by
  have hz : Tryd.zeroCells44 = dB (List.replicate 80 0) := by kernel_rfl
  have a0 := At.new w 24 (gv (0, 0))
  have k0 : Keeps w (w.alloc (.cells (gv (0, 0)) 24)) := Keeps.alloc (Below.refl _ _) _
  have Hz := Lib.hid hz
  have hd : (List.replicate 80 (0 : UInt8)).length = 80 := by simp
  have Hd := Lib.hid hd
  clear hz hd
  generalize List.replicate 80 (0 : UInt8) = D at *
  go_enter Tryd.func9, Tryd.ntmps9
  go_wp2_with (first
    | (go_at_call 21
       refine (r1 _).mono ?_
       rintro e w1 ⟨rfl, b1⟩
       have a1 := a0.later b1
       have g1 : At (w1.alloc (.cells Tryd.zeroCells44 44)) w1.heap.size 44 (dB D) := by rw [← Hz.out]; exact At.new w1 _ _
       have a2 := (a1.alloc (.cells Tryd.zeroCells44 44)).rowfar (by have := a1.lt; omega) (dB D) (g' := w1.heap.size)
       have k1 := Keeps.next k0 b1
       have k2 := below_row (Keeps.alloc k1 (.cells Tryd.zeroCells44 44)) k1.size (dB D))
    | (refine wpList_store_row rfl 44 _ _ rfl w1.heap.size (dB D) rfl rfl 44 _ g1 (sizeD _ Hd.out) (by rw [dB_size]) (oneD _) ?_)
    | (refine wpList_store_row rfl 24 _ _ rfl w.heap.size (gv (0, 0)) rfl rfl 24 _ a2 (sizeV _) rfl (oneV _) ?_))
  exact bodyPost_ret (results_row_tmp Tryd.results9 _ _ w.heap.size _ _ _ rfl (a2.row _) Tryd.underlying24 rfl (sizeV _)) rfl ⟨rfl, below_row k2 (Nat.le_refl _) _⟩
set_option maxHeartbeats 1000000 in
theorem Plain_ok (S : ByteArray) (vv : Int × Int) (hn : sm2 1000000 vv) (v1 : ∀ z, Calls Tryd.prog 9 #[.string S] z fun e w' => e = .returned (.tuple #[.agg (gv vv), .int .i64 0]) ∧ Keeps z w') (w : World) :
    Calls Tryd.prog 10 #[.string S] w fun e w' => e = .returned (.tuple #[.string ⟨(textG vv).toArray⟩, .int .i64 0]) ∧ Keeps w w' := by
  have p1 := fun z => plainText_c vv hn z
  clear hn
  generalize (⟨(textG vv).toArray⟩ : ByteArray) = TT at *
  go_enter Tryd.func10, Tryd.ntmps10
  go_wp2_with (first
    | (go_at_call 9
       refine (v1 _).mono ?_
       rintro e w1 ⟨rfl, b1⟩
       have g1 := At.new w1 24 (gv (0, 0))
       have g2 := g1.row (gv vv)
       have k2 := below_row (Keeps.alloc b1 (.cells (gv (0, 0)) 24)) b1.size (gv vv))
    | (refine wpList_store_row rfl 24 _ _ rfl w1.heap.size (gv vv) rfl rfl 24 _ g1 (sizeV _) rfl (oneV _) ?_)
    | (refine wpList_load_row rfl 24 _ rfl w1.heap.size rfl 24 _ _ _ g2 Tryd.underlying24 rfl (sizeV _) ?_)
    | (go_at_call 24
       refine (p1 _).mono ?_
       rintro e w3 ⟨rfl, b3⟩))
  go_ret2
  exact ⟨rfl, Keeps.next k2 b3⟩
set_option maxHeartbeats 1000000 in
theorem Plain_no (S : ByteArray) (e5 : Int) (he : (e5 != 0) = true) (v1 : ∀ z, Calls Tryd.prog 9 #[.string S] z fun e w' => e = .returned (.tuple #[.agg (gv (0, 0)), .int .i64 e5]) ∧ Keeps z w') (w : World) :
    Calls Tryd.prog 10 #[.string S] w fun e w' => e = .returned (.tuple #[.string ⟨#[]⟩, .int .i64 e5]) ∧ Keeps w w' := by
  go_enter Tryd.func10, Tryd.ntmps10
  go_wp2_with (first
    | (go_at_call 9
       refine (v1 _).mono ?_
       rintro e w1 ⟨rfl, b1⟩
       have g1 := At.new w1 24 (gv (0, 0))
       have k2 := below_row (Keeps.alloc b1 (.cells (gv (0, 0)) 24)) b1.size (gv (0, 0)))
    | (refine wpList_store_row rfl 24 _ _ rfl w1.heap.size (gv (0, 0)) rfl rfl 24 _ g1 (sizeV _) rfl (oneV _) ?_))
  go_ret2
  exact ⟨rfl, k2⟩
/-- Digits. -/
def dig (c : UInt8) : Bool := decide (48 ≤ c) && decide (c ≤ 51)
theorem dig_ok (c : UInt8) : dig c = true ↔ okD c := by
  unfold dig okD
  constructor
  · intro h
    simp only [Bool.and_eq_true, decide_eq_true_eq, UInt8.le_iff_toNat_le] at h
    have h1 : (48 : UInt8).toNat = 48 := rfl
    have h2 : (51 : UInt8).toNat = 51 := rfl
    have : c.toNat = 48 ∨ c.toNat = 49 ∨ c.toNat = 50 ∨ c.toNat = 51 := by omega
    rcases this with h | h | h | h
    · exact .inl (UInt8.toNat_inj.1 h)
    · exact .inr (.inl (UInt8.toNat_inj.1 h))
    · exact .inr (.inr (.inl (UInt8.toNat_inj.1 h)))
    · exact .inr (.inr (.inr (UInt8.toNat_inj.1 h)))
  · rintro (rfl | rfl | rfl | rfl) <;> decide
/-- The parts of a text, if it is one. -/
def prs (l : List UInt8) : Option (List UInt8 × List UInt8) :=
  if (l.takeWhile dig).length < 1 ∨ 40 < (l.takeWhile dig).length then none else
  match l.dropWhile dig with
  | [] => some (l.takeWhile dig, [])
  | c :: r => if c = 46 then (if (r.takeWhile dig).length < 1 ∨ 40 < (r.takeWhile dig).length then none else match r.dropWhile dig with | [] => some (l.takeWhile dig, r.takeWhile dig) | _ :: _ => none) else none
theorem tw_ok (l : List UInt8) : ∀ c ∈ l.takeWhile dig, okD c := fun c hc => (dig_ok c).1 (by
  induction l with
  | nil => cases hc
  | cons d l ih =>
    rw [List.takeWhile_cons] at hc
    split at hc
    · rename_i hd
      rcases List.mem_cons.1 hc with rfl | hc
      · exact hd
      · exact ih hc
    · cases hc)
theorem dw_head (l : List UInt8) : ∀ c, (l.dropWhile dig).head? = some c → ¬ okD c := fun c hc hok => by
  have := (dig_ok c).2 hok
  induction l with
  | nil => cases hc
  | cons d l ih =>
    rw [List.dropWhile_cons] at hc
    split at hc
    · exact ih hc
    · rename_i hd
      obtain rfl := Option.some.inj hc
      exact hd this
theorem tw_dw (l : List UInt8) : l.takeWhile dig ++ l.dropWhile dig = l := List.takeWhile_append_dropWhile
theorem tw_len (l : List UInt8) : (l.takeWhile dig).length ≤ l.length := (List.takeWhile_sublist _).length_le
theorem dw_len (l : List UInt8) : (l.dropWhile dig).length ≤ l.length := (List.dropWhile_sublist _).length_le
/-- What read tells of each text. -/
def rdV (l : List UInt8) : List UInt8 := match prs l with | none => List.replicate 80 0 | some p => digL p.1 p.2
def rdE (l : List UInt8) : Int := match prs l with | none => 4 | some _ => 0
theorem read_any (l : List UInt8) (hl : l.length ≤ 100) (w : World) :
    Calls Tryd.prog 21 #[.string ⟨l.toArray⟩] w fun e w' => e = .returned (.tuple #[.agg (dB (rdV l)), .int .i64 (rdE l)]) ∧ Keeps w w' := by
  have h1 := tw_len l
  have h2 := dw_len l
  have hF := tw_ok l
  have hR := dw_head l
  have e := tw_dw l
  unfold rdV rdE prs
  by_cases hbad : (l.takeWhile dig).length < 1 ∨ 40 < (l.takeWhile dig).length
  · rw [if_pos hbad]
    have := read_a (l.takeWhile dig) (l.dropWhile dig) hF hR hbad (by omega) (by omega) w
    rw [e] at this
    exact this
  · rw [if_neg hbad]
    cases hd : l.dropWhile dig with
    | nil =>
      rw [hd, List.append_nil] at e
      have := read_one (l.takeWhile dig) hF (by omega) (by omega) w
      rw [e] at this ⊢
      exact this
    | cons c r =>
      rw [hd] at e h2 hR
      simp only [List.length_cons] at h2
      have hc := hR c rfl
      by_cases h46 : c = 46
      · subst h46
        simp only [if_true]
        have g1 := tw_len r
        have g2 := dw_len r
        have hG := tw_ok r
        have hS := dw_head r
        have f := tw_dw r
        by_cases hbad2 : (r.takeWhile dig).length < 1 ∨ 40 < (r.takeWhile dig).length
        · rw [if_pos hbad2]
          have := read_c (l.takeWhile dig) (r.takeWhile dig) (r.dropWhile dig) hF hG hS (by omega) (by omega) hbad2 (by omega) (by omega) w
          rw [f, e] at this
          exact this
        · rw [if_neg hbad2]
          cases hd2 : r.dropWhile dig with
          | nil =>
            rw [hd2, List.append_nil] at f
            have := read_f (l.takeWhile dig) (r.takeWhile dig) hF hG (by omega) (by omega) (by omega) (by omega) w
            rw [f, e] at this
            rw [f]
            exact this
          | cons c2 r2 =>
            have := read_d (l.takeWhile dig) (r.takeWhile dig) (r.dropWhile dig) hF hG hS (by omega) (by omega) (by omega) (by omega) (by rw [hd2]; simp) (by omega) w
            rw [f, e] at this
            exact this
      · simp only [if_neg h46]
        have := read_e (l.takeWhile dig) c r hF hc h46 (by omega) (by omega) (by omega) w
        rw [e] at this
        exact this
end Go.Proofs.YtfekggmdhmkemaaDoor
