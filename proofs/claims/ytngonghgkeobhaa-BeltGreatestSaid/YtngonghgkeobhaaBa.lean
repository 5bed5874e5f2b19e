/- The plain words of sides; the walks of bitOf, has, flipped. -/
import Derived.Test.YtngonghgkeobhaaCa
import Derived.Test.YtngonghgkeobhaaRows
import Derived.WalkKit
import Derived.WalkSpells
import Derived.WalkLawsBesides
import Derived.Deep.QuietTactic
import Derived.BigQuiet
import Derived.Lib.Hide
import Derived.StillTailTactics
import Derived.IntWalk
import Derived.Outline
import Derived.Deep.Cut
import Derived.Test.YtngonghgkeobhaaUa
namespace Go.Proofs.Ytngonghgkeobhaa
open Go.RowKit
set_option linter.unusedVariables false
set_option linter.unusedSimpArgs false

/-- The bit of a vertex. -/
def bt (v : Nat) : Nat := 2 ^ (11 - v)
set_option maxHeartbeats 1000000 in
theorem bitOf_c (v : Nat) (hv : v < 12) (w : World) : Calls Try.prog 54 #[.int .i64 v] w fun e w' => e = .returned (.int .u16 (bt v)) ∧ w = w' := by
  have hc : v = 0 ∨ v = 1 ∨ v = 2 ∨ v = 3 ∨ v = 4 ∨ v = 5 ∨ v = 6 ∨ v = 7 ∨ v = 8 ∨ v = 9 ∨ v = 10 ∨ v = 11 := by omega
  clear hv
  rcases hc with rfl | rfl | rfl | rfl | rfl | rfl | rfl | rfl | rfl | rfl | rfl | rfl
  all_goals
    go_enter Try.func54, Try.ntmps54
    go_wp2_with fail
    go_ret
    exact ⟨rfl, rfl⟩
theorem bt_lt (v : Nat) : bt v < 65536 := by
  unfold bt
  have : 2 ^ (11 - v) ≤ 2 ^ 11 := Nat.pow_le_pow_right (by decide) (by omega)
  omega
theorem bits_and_16 (a b : Nat) (ha : a < 65536) (hb : b < 65536) : bits .and .u16 (a : Int) (b : Int) = ((a &&& b : Nat) : Int) := by
  have hx : a &&& b < 2 ^ 16 := Nat.and_lt_two_pow _ (by omega)
  have h1 : (BitVec.ofInt 16 (a : Int)).toNat = a := by rw [BitVec.ofInt_natCast, BitVec.toNat_ofNat]; exact Nat.mod_eq_of_lt (by omega)
  have h2 : (BitVec.ofInt 16 (b : Int)).toNat = b := by rw [BitVec.ofInt_natCast, BitVec.toNat_ofNat]; exact Nat.mod_eq_of_lt (by omega)
  show IntKind.u16.wrap ((BitVec.ofInt 16 (a : Int) &&& BitVec.ofInt 16 (b : Int)).toNat : Int) = _
  rw [BitVec.toNat_and, h1, h2]
  have : ∀ x : Int, IntKind.u16.wrap x = x % 65536 := fun x => by simp [IntKind.wrap, IntKind.signed, IntKind.bits]
  rw [this]
  omega
theorem bits_xor_16 (a b : Nat) (ha : a < 65536) (hb : b < 65536) : bits .xor .u16 (a : Int) (b : Int) = ((a ^^^ b : Nat) : Int) := by
  have hx : a ^^^ b < 2 ^ 16 := Nat.xor_lt_two_pow (by omega) (by omega)
  have h1 : (BitVec.ofInt 16 (a : Int)).toNat = a := by rw [BitVec.ofInt_natCast, BitVec.toNat_ofNat]; exact Nat.mod_eq_of_lt (by omega)
  have h2 : (BitVec.ofInt 16 (b : Int)).toNat = b := by rw [BitVec.ofInt_natCast, BitVec.toNat_ofNat]; exact Nat.mod_eq_of_lt (by omega)
  show IntKind.u16.wrap ((BitVec.ofInt 16 (a : Int) ^^^ BitVec.ofInt 16 (b : Int)).toNat : Int) = _
  rw [BitVec.toNat_xor, h1, h2]
  have : ∀ x : Int, IntKind.u16.wrap x = x % 65536 := fun x => by simp [IntKind.wrap, IntKind.signed, IntKind.bits]
  rw [this]
  omega
/-- The character of a vertex. -/
def hs (s v : Nat) : Bool := s.testBit (11 - v)
theorem hs_and (s v : Nat) (h : s < 65536) : (bits .and .u16 (s : Int) (bt v : Int) != 0) = hs s v := by
  rw [bits_and_16 s (bt v) h (bt_lt v)]
  unfold bt hs
  generalize 11 - v = k
  cases hb : s.testBit k
  · have : s &&& 2 ^ k = 0 := by
      apply Nat.eq_of_testBit_eq
      intro i
      rw [Nat.testBit_and, Nat.testBit_two_pow, Nat.zero_testBit]
      by_cases e : k = i
      · subst e; rw [hb]; rfl
      · simp [e]
    rw [this]
    rfl
  · rw [bne_iff_ne]
    intro h0
    have h1 : s &&& 2 ^ k = 0 := by omega
    have h2 : (s &&& 2 ^ k).testBit k = true := by rw [Nat.testBit_and, Nat.testBit_two_pow, hb]; simp
    rw [h1, Nat.zero_testBit] at h2
    cases h2
theorem has_c (s v : Nat) (hv : v < 12) (h : s < 65536) (w : World) : Calls Try.prog 55 #[.int .u16 s, .int .i64 v] w fun e w' => e = .returned (.bool (hs s v)) ∧ w = w' := by
  have bc := fun z => bitOf_c v hv z
  have e := hs_and s v h
  have E := Lib.hid e
  clear e
  generalize bt v = b at *
  go_enter Try.func55, Try.ntmps55
  go_wp2_with (go_at_call 54; refine (bc _).mono ?_; rintro e w1 ⟨rfl, rfl⟩)
  go_ret
  exact ⟨ret_bool E.out, rfl⟩
/-- A side with one character changed. -/
def flp (s v : Nat) : Nat := s ^^^ bt v
theorem flipped_c (s v : Nat) (hv : v < 12) (h : s < 65536) (w : World) : Calls Try.prog 41 #[.int .u16 s, .int .i64 v] w fun e w' => e = .returned (.int .u16 (flp s v)) ∧ w = w' := by
  have bc := fun z => bitOf_c v hv z
  have e := bits_xor_16 s (bt v) h (bt_lt v)
  unfold flp
  have E := Lib.hid e
  clear e
  generalize bt v = b at *
  go_enter Try.func41, Try.ntmps41
  go_wp2_with (go_at_call 54; refine (bc _).mono ?_; rintro e w1 ⟨rfl, rfl⟩)
  go_ret
  exact ⟨ret_int E.out, rfl⟩
/-- The cells of an edge. -/
def ev (e : Int × Int × Int) : Array Value := #[.int .i64 e.1, .int .i64 e.2.1, .int .i64 e.2.2]
theorem sizeE (e : Int × Int × Int) : (Try.prog.info? 28).map (·.size) = some (ev e).size := by show _ = some 3; kernel_rfl
theorem oneE (e : Int × Int × Int) : (ev e).all (·.oneCell') = true := by simp [ev, Value.oneCell']
theorem cells_ev {w : World} {g : Nat} {t : TypeId} {x : Int × Int × Int} (h : At w g t (ev x)) : w.cell? ⟨g, 0, none⟩ = some (.int .i64 x.1) ∧ w.cell? ⟨g, 1, none⟩ = some (.int .i64 x.2.1) ∧ w.cell? ⟨g, 2, none⟩ = some (.int .i64 x.2.2) :=
  ⟨by have := h.cell 0; simpa [ev] using this, by have := h.cell 1; simpa [ev] using this, by have := h.cell 2; simpa [ev] using this⟩
theorem keeps_dr {a w : World} (h : Keeps a w) : Keeps a w.drew := below_drewN (n := 1) h
set_option maxHeartbeats 2000000 in
set_option maxRecDepth 100000 in
theorem cuts_c (s a b : Nat) (c : Int) (ha : a < 12) (hb : b < 12) (h : s < 65536) (w : World) :
    Calls Try.prog 43 #[.int .u16 s, .agg (ev ((a : Int), (b : Int), c))] w fun e w' => e = .returned (.bool (hs s a != hs s b)) ∧ Keeps w w' := by
  have ca := fun z => has_c s a ha h z
  have cb := fun z => has_c s b hb h z
  generalize hs s a = x at *
  generalize hs s b = y at *
  have e0 := At.new w 28 (ev ((a : Int), (b : Int), c))
  have k0 : Keeps w (w.alloc (.cells (ev ((a : Int), (b : Int), c)) 28)) := Keeps.alloc (Below.refl _ _) _
  change Calls Try.prog 43 #[.int .u16 s, .agg #[.int .i64 a, .int .i64 b, .int .i64 c]] w _
  go_enter Try.func43, Try.ntmps43
  go_upto_region 1 with (fail)
  refine region_any_inv (G := Unit) (f := ?f) (fun _ => [.int .u16 s, .pointer (some ⟨w.heap.size, 0, none⟩), .int .i64 a, .bool x, .int .u16 s, .pointer (some ⟨w.heap.size, 1, none⟩), .int .i64 b, .bool y, .bool (x != y), .bool (x != y)])
    (fun _ _ w' => Keeps w w' ∧ At w' w.heap.size 28 (ev ((a : Int), (b : Int), c))) () (fun _ => ?hf) (by kernel_rfl) (by kernel_rfl) ⟨keeps_dr k0, e0.drew⟩ ?steps ?fin
  case hf =>
    simp only [fill, List.toList_toArray, List.zip_cons_cons, List.zip_nil_left, List.zip_nil_right, List.foldl_cons, List.foldl_nil, Act.put, List.setIfInBounds_toArray, List.set_cons_succ, List.set_cons_zero]
    exact rfl
  case steps =>
    refine StepsU.cons rfl (fun g L w' hL hr hc hF => ?_) ?_
    · obtain ⟨k1, e1⟩ := hF
      obtain ⟨p1, p2, p3⟩ := cells_ev e1
      refine StepU.go rfl (fun K hK => ?_)
      go_simp
      exact hK () _ ⟨k1, e1⟩
    refine StepsU.cons rfl (fun g L w' hL hr hc hF => ?_) ?_
    · obtain ⟨k1, e1⟩ := hF
      obtain ⟨p1, p2, p3⟩ := cells_ev e1
      refine StepU.go rfl (fun K hK => ?_)
      go_simp
      exact hK () _ ⟨k1, e1⟩
    refine StepsU.cons rfl (fun g L w' hL hr hc hF => ?_) ?_
    · obtain ⟨k1, e1⟩ := hF
      obtain ⟨p1, p2, p3⟩ := cells_ev e1
      refine StepU.go rfl (fun K hK => ?_)
      go_simp
      exact hK () _ ⟨k1, e1⟩
    refine StepsU.cons rfl (fun g L w' hL hr hc hF => ?_) ?_
    · refine StepU.go rfl (fun K hK => ?_)
      go_simp
      refine (ca _).mono ?_
      rintro e w4 ⟨rfl, rfl⟩
      exact hK () _ hF
    refine StepsU.cons rfl (fun g L w' hL hr hc hF => ?_) ?_
    · obtain ⟨k1, e1⟩ := hF
      obtain ⟨p1, p2, p3⟩ := cells_ev e1
      refine StepU.go rfl (fun K hK => ?_)
      go_simp
      exact hK () _ ⟨k1, e1⟩
    refine StepsU.cons rfl (fun g L w' hL hr hc hF => ?_) ?_
    · obtain ⟨k1, e1⟩ := hF
      obtain ⟨p1, p2, p3⟩ := cells_ev e1
      refine StepU.go rfl (fun K hK => ?_)
      go_simp
      exact hK () _ ⟨k1, e1⟩
    refine StepsU.cons rfl (fun g L w' hL hr hc hF => ?_) ?_
    · obtain ⟨k1, e1⟩ := hF
      obtain ⟨p1, p2, p3⟩ := cells_ev e1
      refine StepU.go rfl (fun K hK => ?_)
      go_simp
      exact hK () _ ⟨k1, e1⟩
    refine StepsU.cons rfl (fun g L w' hL hr hc hF => ?_) ?_
    · refine StepU.go rfl (fun K hK => ?_)
      go_simp
      refine (cb _).mono ?_
      rintro e w4 ⟨rfl, rfl⟩
      exact hK () _ hF
    refine StepsU.cons rfl (fun g L w' hL hr hc hF => ?_) ?_
    · obtain ⟨k1, e1⟩ := hF
      obtain ⟨p1, p2, p3⟩ := cells_ev e1
      refine StepU.go rfl (fun K hK => ?_)
      go_simp
      exact hK () _ ⟨k1, e1⟩
    refine StepsU.cons rfl (fun g L w' hL hr hc hF => ?_) ?_
    · obtain ⟨k1, e1⟩ := hF
      obtain ⟨p1, p2, p3⟩ := cells_ev e1
      refine StepU.go rfl (fun K hK => ?_)
      go_simp
      exact hK () _ ⟨k1, e1⟩
    exact StepsU.nil (by simp)
  case fin =>
  intro g L w3 hall hF
  obtain ⟨k3, e3⟩ := hF
  go_wp2_with fail
  go_ret
  exact ⟨rfl, k3⟩
/-- 'an edge of n vertices'. -/
def edgeB (n : Int) (e : Int × Int × Int) : Bool := decide (0 ≤ e.1) && (decide (e.1 < e.2.1) && (decide (e.2.1 < n) && (decide (-50 ≤ e.2.2) && decide (e.2.2 ≤ 50))))
set_option maxHeartbeats 2000000 in
theorem isEdge_c (n : Int) (e : Int × Int × Int) (w : World) : Calls Try.prog 52 #[.int .i64 n, .agg (ev e)] w fun r w' => r = .returned (.bool (edgeB n e)) ∧ Keeps w w' := by
  have e0 := At.new w 28 (ev e)
  have k0 : Keeps w (w.alloc (.cells (ev e) 28)) := Keeps.alloc (Below.refl _ _) _
  obtain ⟨p1, p2, p3⟩ := cells_ev e0
  unfold edgeB
  obtain ⟨b1, h1⟩ : ∃ b, decide (0 ≤ e.1) = b := ⟨_, rfl⟩
  obtain ⟨b2, h2⟩ : ∃ b, decide (e.1 < e.2.1) = b := ⟨_, rfl⟩
  obtain ⟨b3, h3⟩ : ∃ b, decide (e.2.1 < n) = b := ⟨_, rfl⟩
  obtain ⟨b4, h4⟩ : ∃ b, decide (-50 ≤ e.2.2) = b := ⟨_, rfl⟩
  obtain ⟨b5, h5⟩ : ∃ b, decide (e.2.2 ≤ 50) = b := ⟨_, rfl⟩
  rw [h1, h2, h3, h4, h5]
  change Calls Try.prog 52 #[.int .i64 n, .agg #[.int .i64 e.1, .int .i64 e.2.1, .int .i64 e.2.2]] w _
  change Keeps w (w.alloc (.cells #[.int .i64 e.1, .int .i64 e.2.1, .int .i64 e.2.2] 28)) at k0
  change (w.alloc (.cells #[.int .i64 e.1, .int .i64 e.2.1, .int .i64 e.2.2] 28)).cell? ⟨w.heap.size, 0, none⟩ = _ at p1
  change (w.alloc (.cells #[.int .i64 e.1, .int .i64 e.2.1, .int .i64 e.2.2] 28)).cell? ⟨w.heap.size, 1, none⟩ = _ at p2
  change (w.alloc (.cells #[.int .i64 e.1, .int .i64 e.2.1, .int .i64 e.2.2] 28)).cell? ⟨w.heap.size, 2, none⟩ = _ at p3
  clear e0
  have K0 := Lib.hid k0
  clear k0
  cases b1
  case false => go_enter Try.func52, Try.ntmps52; go_wp2_with fail; go_ret; exact ⟨rfl, K0.out⟩
  cases b2
  case false => go_enter Try.func52, Try.ntmps52; go_wp2_with fail; go_ret; exact ⟨rfl, K0.out⟩
  cases b3
  case false => go_enter Try.func52, Try.ntmps52; go_wp2_with fail; go_ret; exact ⟨rfl, K0.out⟩
  cases b4
  case false => go_enter Try.func52, Try.ntmps52; go_wp2_with fail; go_ret; exact ⟨rfl, K0.out⟩
  cases b5
  case false => go_enter Try.func52, Try.ntmps52; go_wp2_with fail; go_ret; exact ⟨rfl, K0.out⟩
  go_enter Try.func52, Try.ntmps52
  go_wp2_with fail
  go_ret
  exact ⟨rfl, K0.out⟩
end Go.Proofs.Ytngonghgkeobhaa
