/- The sides below a number, an iterator; the proper sides. -/
import Derived.Test.YtngonghgkeobhaaBf
import Derived.Test.YtngonghgkeobhaaRl
import Derived.Sort.CutIn
namespace Go.Proofs.Ytngonghgkeobhaa
open Go.RowKit Go.Shelf
set_option linter.unusedVariables false
set_option linter.unusedSimpArgs false
attribute [local go_sem] Oper.semAt_some

/-- m sides, u apart. -/
def sds (u m : Nat) : List Nat := (List.range m).map fun i => i * u
theorem sds_at (u m k : Nat) (h : k < m) : (sds u m)[k]? = some (k * u) := by simp [sds, h]
theorem sds_length (u m : Nat) : (sds u m).length = m := by simp [sds]
theorem sidesBelow_c (a : Int) (b : Int) (w : World) :
    Calls Try.prog 53 #[.int .i64 a, .int .u16 b] w fun e w' => e = .returned (.func (.func 68) #[] #[.pointer (some ⟨w.heap.size + 1, 0, none⟩), .pointer (some ⟨w.heap.size, 0, none⟩)]) ∧ (w.alloc (.cells #[.int .i64 a] 3)).alloc (.cells #[.int .u16 b] 60) = w' := by
  go_enter Try.func53, Try.ntmps53
  go_wp2
  go_ret
  exact ⟨rfl, rfl⟩
def encB (_ : Nat) (x : Nat) : Array Value := #[.int .u16 x]
set_option maxHeartbeats 4000000 in
set_option maxRecDepth 100000 in
theorem sides_iter (v m : Nat) (hv : v < 12) (hm : m * bt v ≤ 4096) (b1 b2 : Nat) (K : Nat → Prop) (hb1 : K b1) (hb2 : K b2) (w0 : World) (hK : ∀ r, K r → r < w0.heap.size)
    (ha1 : At w0 b1 60 #[.int .u16 ((m * bt v : Nat) : Int)]) (ha2 : At w0 b2 3 #[.int .i64 ((v : Int) + 1)]) :
    Iter Try.prog 68 #[.pointer (some ⟨b1, 0, none⟩), .pointer (some ⟨b2, 0, none⟩)] encB (fun _ _ _ => True) K (sds (bt v) m) w0 := by
  intro n q J Jx W hW hsz hJ hJx hY h0
  have HJ := Lib.hid hJ
  have HJx := Lib.hid hJx
  have HY := Lib.hid hY
  have hF1 : b1 < W.heap.size := by have := hK b1 hb1; omega
  have hF2 : b2 < W.heap.size := by have := hK b2 hb2; omega
  have hKW : ∀ r, K r → r < W.heap.size := fun r hr => by have := hK r hr; omega
  have hbo := fun x => bitOf_c v hv x
  have hu0 : 0 < bt v := Nat.pow_pos (by decide)
  generalize bt v = u at *
  clear hJ hJx hY
  rw [show (#[Value.func (.yield q) #[] #[]] ++ #[Value.pointer (some ⟨b1, 0, none⟩), Value.pointer (some ⟨b2, 0, none⟩)] : Array Value) = #[.func (.yield q) #[] #[], .pointer (some ⟨b1, 0, none⟩), .pointer (some ⟨b2, 0, none⟩)] from rfl]
  refine (callsIn_wide (n := n + 1)).1 ?_
  refine callsIn_of_wp Try.func68 rfl trivial ?_ rfl
  simp only [Try.ntmps68, List.size_toArray, List.length_cons, List.length_nil, Nat.reduceAdd, Nat.reduceSub, Array.replicate_succ, Array.replicate_zero, List.push_toArray, List.append_toArray, List.nil_append, List.cons_append]
  gi_wp2_with fail
  gi_loopw [4] (fun s wr => ∃ (k : Nat) (M : Nat → Prop), k ≤ m ∧ s = .int .u16 ((k * u : Nat) : Int) ∧ J k M wr ∧ (∀ r, M r → W.heap.size ≤ r ∧ r < wr.heap.size) ∧ Holds K W wr) (fun s _ => 4096 - (intOf s).toNat)
  case atStart => exact ⟨0, fun _ => False, Nat.zero_le _, by simp, h0, fun r h => h.elim, Holds.refl _ _⟩
  case round =>
    obtain ⟨k, M, hkm, rfl, hj, hM, hh⟩ := hrel
    have hKr := hW.trans hh
    have cL := (ha1.holds hKr hb1).cell 0
    simp only [List.getElem?_toArray, List.getElem?_cons_zero] at cL
    by_cases hlt : k < m
    · have h1 : k * u + u ≤ m * u := by rw [← Nat.succ_mul]; exact Nat.mul_le_mul_right u hlt
      have HS := Lib.hid (Nat.succ_mul k u)
      have Hx := Lib.hid (sds_at u m k hlt)
      generalize k * u = s at *
      have hd : decide ((s : Int) < ((m * u : Nat) : Int)) = true := by rw [decide_eq_true_eq]; exact_mod_cast (show s < m * u by omega)
      generalize m * u = E at *
      have hw : IntKind.u16.wrap ((s : Int) + (u : Int)) = (s : Int) + (u : Int) := IntWalk.u16_in _ (by omega)
      obtain ⟨fn, tmps, assign, body, hy, hR⟩ := HY.out k s M wr Hx.out hj hM hh trivial
      rw [show encB W.heap.size s = #[.int .u16 s] from rfl] at hy
      clear cL
      have cL := (ha1.holds hKr hb1).cell 0
      simp only [List.getElem?_toArray, List.getElem?_cons_zero] at cL
      have HBO := Lib.hid hbo
      clear hbo
      gi_wp2_with fail
      refine hR.mono ?_
      rintro e X' ⟨M2, m1, m2, hh2, hend⟩
      clear hy hR cL
      have hMb : ∀ r, M2 r → W.heap.size ≤ r ∧ r < X'.heap.size := fun r hr => ⟨(m2 r hr).elim (fun h => (hM r h).1) (fun h => by have := hh.size; omega), m1 r hr⟩
      have hKX : Holds K W X' := hh.trans2 hh2 (fun r _ h => .inl h)
      have hKX2 := hW.trans hKX
      have cN := (ha2.holds hKX2 hb2).cell 0
      simp only [List.getElem?_toArray, List.getElem?_cons_zero] at cN
      rcases hend with ⟨rfl, hj2⟩ | ⟨rfl, hj2⟩
      · have q1 : IntKind.i64.wrap ((v : Int) + 1 - 1) = (v : Int) := by rw [Int.add_sub_cancel]; exact IntWalk.i64_in _ (by omega)
        have q2 : (v : Int) + 1 - 1 = (v : Int) := Int.add_sub_cancel _ _
        gi_wp2_with fail
        refine ⟨trivial, (callsIn_wide.2 (HBO.out _)).mono ?_⟩
        rintro e w2 ⟨rfl, rfl⟩
        gi_wp2_with fail
        go_roundw
        case rel => exact ⟨k + 1, M2, by omega, by rw [HS.out]; rfl, hj2, hMb, hKX⟩
        case measure => simp [intOf]; omega
      · gi_wp2_with fail
        go_end0
        exact ⟨⟨_, rfl⟩, M2, hMb, .inr ⟨_, hj2⟩⟩
    · obtain rfl : k = m := by omega
      have hd : decide (((k * u : Nat) : Int) < ((k * u : Nat) : Int)) = false := by simp
      generalize k * u = E at *
      gi_wp2_with fail
      refine ⟨fun _ h => (by cases h), ?_⟩
      gi_wp2_with fail
      go_end0
      exact ⟨⟨_, rfl⟩, M, hM, .inl (by rw [sds_length]; exact hj)⟩
end Go.Proofs.Ytngonghgkeobhaa
