/- Letters, inverses, and strings made of bytes of the call's own. -/
import Derived.Test.YtikedhkibdeheaaCb
import Derived.Laws.IdiomStrings
import Derived.Laws.BytesArg
namespace Go.Proofs.Ytikedhkibdeheaa
open Go.RowKit

def opp (c : UInt8) : UInt8 := c ^^^ 32
def inv (l : List UInt8) : List UInt8 := (l.map opp).reverse
theorem okL_four (c : UInt8) (h : okL 2 c = true) : c = 97 ∨ c = 65 ∨ c = 98 ∨ c = 66 := by
  simp only [okL, decide_eq_true_eq] at h
  rcases h with h | h | ⟨_, h | h⟩ <;> simp [h]
theorem okL_two (g : Int) (c : UInt8) (h : okL g c = true) : okL 2 c = true := by
  simp only [okL, decide_eq_true_eq] at h ⊢
  rcases h with h | h | ⟨_, h⟩
  · exact .inl h
  · exact .inr (.inl h)
  · exact .inr (.inr ⟨trivial, h⟩)
theorem okL_opp (g : Int) (c : UInt8) (h : okL g c = true) : okL g (opp c) = true := by
  simp only [okL, decide_eq_true_eq] at h ⊢
  rcases h with rfl | rfl | ⟨hg, rfl | rfl⟩
  · exact .inr (.inl (by decide))
  · exact .inl (by decide)
  · exact .inr (.inr ⟨hg, .inr (by decide)⟩)
  · exact .inr (.inr ⟨hg, .inl (by decide)⟩)
def bytes (l : List UInt8) : List Value := l.map fun c => Value.int .u8 c.toNat
theorem bytes_length (l : List UInt8) : (bytes l).length = l.length := by simp [bytes]
theorem bytes_append (a b : List UInt8) : bytes (a ++ b) = bytes a ++ bytes b := by simp [bytes]
theorem bytes_one (l : List UInt8) : ∀ u ∈ bytes l, u.oneCell' = true := by
  intro u hu
  obtain ⟨_, _, rfl⟩ := List.mem_map.1 hu
  rfl
theorem infoB : (Try.prog.info? 5).map (fun i => (i.zero, i.size, i.bytes)) = some (some (.int .u8 0), 1, 1) := by kernel_rfl
theorem str_own {w : World} {base : Nat} {v : Value} {n : Nat} {l : List UInt8} (h : w.ownsRow base 5 1 v n (bytes l)) :
    (convert 63 9 v).run Try.prog w = .ok (.string ⟨l.toArray⟩) w := by
  have hn : l.length = n := by have := h.1; simpa [bytes] using this
  rcases h.2 with ⟨rfl, h0⟩ | ⟨g, cap, cur, rfl, _, hg, hc, _, hs, ht⟩
  · have : l = [] := List.eq_nil_of_length_eq_zero (by omega)
    subst this
    exact run_convert_bytes_nil w 63 5 Try.underlying63 Try.underlying5 _ _ _ Try.underlying9
  · subst hn
    refine run_convert_bytes_back w 63 9 5 ⟨g, 0, none⟩ cap l Try.underlying63 Try.underlying5 Try.underlying9 fun j hj => ?_
    have hx := h.cellAt j (by omega)
    rw [show (⟨g, 0, none⟩ : Addr).add j = ⟨g, j, none⟩ from by unfold Addr.add; split <;> simp_all, hx, bytes, List.getElem?_map, List.getElem?_eq_getElem hj]
    rfl

set_option maxHeartbeats 400000 in
theorem opposite_c (c : UInt8) (hc : okL 2 c = true) (w : World) :
    Calls Try.prog 71 #[.int .u8 c.toNat] w fun e w' => e = .returned (.int .u8 (opp c).toNat) ∧ w' = w := by
  rcases okL_four c hc with rfl | rfl | rfl | rfl
  all_goals
    go_enter Try.func71, Try.ntmps71
    go_wp2
    go_ret
    exact ⟨rfl, rfl⟩

theorem inv_snoc (l : List UInt8) (m : Nat) (h : m < l.length) : inv (l.drop m) = inv (l.drop (m + 1)) ++ [opp l[m]] := by
  unfold inv; rw [List.drop_eq_getElem_cons h, List.map_cons, List.reverse_cons]

set_option maxHeartbeats 1000000 in
theorem inverse_c (s : ByteArray) (hl : s.data.toList.all (okL 2) = true) (hz : s.size ≤ 100000) (w : World) :
    Calls Try.prog 52 #[.string s] w fun e w' => e = .returned (.string ⟨(inv s.data.toList).toArray⟩) ∧ Keeps w w' := by
  obtain ⟨i0, hi, hz0, hz1, hz2⟩ := info_parts infoB
  go_enter Try.func52, Try.ntmps52
  go_wp2_with (at_make; refine wpList_make_own _ rfl _ _ 63 rfl w.heap.size 5 i0 _ 1 Try.underlying63 hi hz0 hz1 _ _ _ s.size rfl rfl rfl (by rw [hz2]; omega) (by unfold maxLen; omega) (Nat.le_refl _) ?_; intro w1 hown hgrow)
  have hk0 : Keeps w w1 := (Below.refl _ w).grown hgrow (Nat.le_refl _) (fun g h => by simp at h)
  go_loopw [3, 4] (fun v i wr => ∃ m : Nat, m ≤ s.size ∧ i = .int .i64 ((m : Int) - 1) ∧ wr.ownsRow w.heap.size 5 1 v (inv (s.data.toList.drop m)).length (bytes (inv (s.data.toList.drop m))) ∧ Keeps w wr) (fun _ i _ => (intOf i + 1).toNat)
  case atStart => exact ⟨s.size, Nat.le_refl _, rfl, by rw [List.drop_of_length_le (by simp)]; exact hown, hk0⟩
  case round =>
    obtain ⟨m, hm, rfl, hown, hb⟩ := hrel
    cases m with
    | zero =>
      have hs := str_own hown
      go_wp2_with fail
      go_ret
      exact ⟨rfl, hb⟩
    | succ m =>
      have hlt : m < s.size := by omega
      have hc : okL 2 s[m] = true := List.all_eq_true.1 hl _ (Array.mem_toList_iff.2 (Array.getElem_mem (xs := s.data) (i := m) hlt))
      have Hinv := Lib.hid (inv_snoc s.data.toList m (by simpa using hlt))
      have hlen : (inv (s.data.toList.drop (m + 1))).length ≤ s.size := by simp [inv]
      have hws := hb.size
      have e1 : ((m + 1 : Nat) : Int) - 1 = m := by omega
      rw [e1]
      generalize inv (s.data.toList.drop (m + 1)) = L at *
      go_wp2_with (first | (go_at_call 71; refine (opposite_c _ hc _).mono ?_; rintro e w2 ⟨rfl, rfl⟩) | (at_builtin; refine wpList_append_own _ rfl _ _ 63 rfl w.heap.size 5 i0 _ 1 1 Try.underlying63 hi hz0 hz1 hz2 rfl (by decide) _ L.length (bytes L) rfl (hown.alloc _) _ 1 1 [.int .u8 (opp s[m]).toNat] rfl rfl (new_cells _ _ _ _ (by simp)) (by simp [Value.oneCell']) (by unfold maxLen; omega) (by omega) (by simp; omega) ?_; intro v' w4 hown4 hgrow4 _))
      go_roundw
      case rel => exact ⟨m, by omega, by go_num, by rw [Hinv.out, List.length_append, bytes_append]; exact hown4, (Keeps.alloc hb _).grown hgrow4 (by simp; omega) (own_base hown)⟩
      case measure => simp [intOf]
end Go.Proofs.Ytikedhkibdeheaa
