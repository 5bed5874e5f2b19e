/- The reference's IsClear; slices.Clone. -/
import Derived.Test.YtdploccpobpjjaaRd
import Derived.Test.YtdploccpobpjjaaSi
namespace Go.Proofs.Ytdploccpobpjjaa
open Go.RowKit
set_option linter.unusedVariables false

set_option maxHeartbeats 1000000 in
set_option maxRecDepth 100000 in
theorem risclear_c (A : Option Addr) (c : Nat) (l : List Int) (ho : ordB l = true) (w : World) (hv : RdI w (.slice A l.length c) l) :
    Calls Try.prog 28 #[.slice A l.length c] w fun e w' => e = .returned (.bool (clearB l)) ∧ Keeps w w' := by
  have hc := rclear_c A c l ho w hv
  have hk : clearK l = clearB l := by rw [clearB_iff, clearK, ho, Bool.true_and]
  rw [hk] at hc
  have ha : ∃ a b d e, clearA l = ia a b d e := by unfold clearA; split <;> exact ⟨_, _, _, _, rfl⟩
  obtain ⟨a, b, d, e, ha⟩ := ha
  rw [ha] at hc
  clear ha hk ho hv
  go_enter Try.func28, Try.ntmps28
  go_wp2_with (first
    | (refine wpList_store_row rfl 27 _ _ rfl w1.heap.size (ia a b d e) rfl rfl 27 (ia 0 0 0 0) (At.new w1 _ _) (sizeF _ _ _ _) rfl (by simp [ia, Value.oneCell']) ?_)
    | (go_at_call 41; refine hc.mono ?_; rintro e w1 ⟨rfl, hb1⟩))
  go_ret
  exact ⟨rfl, below_row (Keeps.alloc hb1 _) (hb1.size) _⟩
set_option maxHeartbeats 1000000 in
set_option maxRecDepth 100000 in
/-- What slices.Clone makes is a new block. -/
theorem clone_c (b0 o0 c0 : Nat) (L : List Int) (h1 : 1 ≤ L.length) (h2 : L.length ≤ 1000) (w : World) (hv : RdI w (.slice (some ⟨b0, o0, none⟩) L.length c0) L) :
    Calls Try.prog 31 #[.slice (some ⟨b0, o0, none⟩) L.length c0] w fun e w' => ∃ b c, e = .returned (.slice (some ⟨b, 0, none⟩) L.length c) ∧ L.length ≤ c ∧ c ≤ maxLen ∧ w.heap.size ≤ b ∧ RdI w' (.slice (some ⟨b, 0, none⟩) L.length c) L ∧ Keeps w w' := by
  obtain ⟨_, _, hA, hm, hcs⟩ := id hv
  cases hA
  obtain ⟨i0, hi, hz0, hz1, hz2⟩ := info_parts infoI
  have Hown : Hid ((w.alloc (.cells #[] 3)).ownsRow w.heap.size 3 1 (.slice (some ⟨w.heap.size, 0, none⟩) 0 0) 0 []) :=
    Lib.hid ⟨rfl, .inr ⟨w.heap.size, 0, #[], rfl, Nat.le_refl _, At.new w 3 #[], Nat.le_refl _, Nat.zero_le _, rfl, rfl⟩⟩
  have Hcell : Hid (∀ j u, (L.map (Value.int .i64))[j]? = some u → (w.alloc (.cells #[] 3)).cell? ((⟨b0, o0, none⟩ : Addr).add j) = some u) := Lib.hid (by
    intro j u hu
    have hj := (List.getElem?_eq_some_iff.1 hu).1
    rw [List.length_map] at hj
    obtain ⟨b', o', x, e1, e2, rfl⟩ := hcs j hj
    cases e1
    rw [show ((⟨b0, o0, none⟩ : Addr).add j) = ⟨b0, o0 + j, none⟩ from by unfold Addr.add; split <;> simp_all, cell_keep e2 (Keeps.alloc (Below.refl _ _) _), ← hu]
    simp [nth, hj])
  have Hlen : Hid ((L.map (Value.int .i64)).length = L.length * 1) := Lib.hid (by simp)
  have hnil : ∀ W, (binOp .eql 22 (.slice (some ⟨b0, o0, none⟩) L.length c0) (.slice none 0 0)).run Try.prog W = .ok (.bool false) W := fun W => by kernel_rfl
  clear hcs hm hv
  go_enter Try.func31, Try.ntmps31
  go_wp2_with (at_builtin; refine wpList_append_own _ rfl _ _ 22 rfl w.heap.size 3 i0 _ 1 8 Try.underlying22 hi hz0 hz1 hz2 rfl (by decide) _ 0 [] rfl Hown.out ⟨b0, o0, none⟩ L.length c0 (L.map (Value.int .i64)) rfl Hlen.out Hcell.out (fun u hu => by obtain ⟨x, _, rfl⟩ := List.mem_map.1 hu; rfl) (by unfold maxLen; omega) (by omega) (by simp) ?_; intro v' w4 hown4 hgrow4 _)
  go_ret
  obtain ⟨g, cap, rfl, hb, hlt, h3, h4, hc⟩ := own_form hown4 (by omega)
  rw [Nat.zero_add] at h3
  refine ⟨g, cap, by simp, h3, h4, hb, ⟨_, cap, rfl, by unfold maxLen; omega, fun j hj => ⟨g, 0, _, rfl, by rw [Nat.zero_add]; exact hc j _ (by simp [nth, List.getElem?_eq_getElem hj]), rfl⟩⟩, ?_⟩
  exact (Keeps.alloc (Below.refl _ _) _).grown hgrow4 (by simp) (fun r hr => own_base Hown.out r hr)
end Go.Proofs.Ytdploccpobpjjaa
