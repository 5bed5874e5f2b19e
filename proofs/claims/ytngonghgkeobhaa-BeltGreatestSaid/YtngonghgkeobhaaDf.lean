/- What a flipped side reads as. -/
import Derived.Test.YtngonghgkeobhaaDd
namespace Go.Proofs.Ytngonghgkeobhaa
open Go.RowKit Go.Shelf
set_option linter.unusedVariables false
set_option linter.unusedSimpArgs false

def flipS (s : ByteArray) (i : Nat) (C : ByteArray) : ByteArray := s.extract 0 i ++ C ++ s.extract (i + 1) s.size
theorem flipS_list (s : ByteArray) (i : Nat) (hi : i < s.size) (c : UInt8) : (flipS s i ⟨#[c]⟩).data.toList = s.data.toList.set i c := by
  unfold flipS
  have hsz : s.data.toList.length = s.size := by simp
  rw [ByteArray.data_append, ByteArray.data_append, ByteArray.data_extract, ByteArray.data_extract]
  rw [List.set_eq_take_append_cons_drop, if_pos (by omega)]
  simp
  exact List.take_of_length_le (by simp)
theorem flipS_size (s : ByteArray) (i : Nat) (hi : i < s.size) (c : UInt8) : (flipS s i ⟨#[c]⟩).size = s.size := by
  have := congrArg List.length (flipS_list s i hi c)
  simpa using this
theorem flipS_ok (s : ByteArray) (i : Nat) (hi : i < s.size) (c : UInt8) (hc : okC c = true) (hok : s.data.toList.all okC = true) : (flipS s i ⟨#[c]⟩).data.toList.all okC = true := by
  rw [flipS_list s i hi c]
  refine List.all_eq_true.2 fun x hx => ?_
  rcases List.mem_or_eq_of_mem_set hx with h | h
  · exact List.all_eq_true.1 hok x h
  · rw [h]; exact hc
theorem flipS_hs (s : ByteArray) (i : Nat) (hi : i < s.size) (h12 : s.size ≤ 12) (c : UInt8) (hc : (c = 49) ↔ ¬ (s.data.toList[i]? = some 49)) (u : Nat) (hu : u < 12) :
    hs (rdS (flipS s i ⟨#[c]⟩).data.toList (flipS s i ⟨#[c]⟩).size) u = hs (flp (rdS s.data.toList s.size) i) u := by
  rw [flipS_size s i hi, flipS_list s i hi c, hs_rdS _ _ h12 u hu, hs_flp _ i u (by omega) hu, hs_rdS _ _ h12 u hu]
  by_cases e : u = i
  · subst e
    rw [if_pos rfl, List.getElem?_set_self (by simpa using hi)]
    generalize s.data.toList[u]? = o at *
    by_cases h : o = some 49
    · have : ¬ c = 49 := fun h' => hc.1 h' h
      simp [this, h, hi]
    · have : c = 49 := hc.2 h
      simp [this, h, hi]
  · rw [if_neg e, List.getElem?_set_ne (fun h => e h.symm)]
theorem valL_congr (S S' : Nat) (l : List Ed) (hl : edgesOk l) (h : ∀ u, u < 12 → hs S u = hs S' u) : valL S l = valL S' l := by
  have key : ∀ k, k ≤ l.length → valL S (l.take k) = valL S' (l.take k) := by
    intro k
    induction k with
    | zero => intro _; rfl
    | succ k ih =>
      intro hk
      have hx : l[k]? = some l[k] := List.getElem?_eq_getElem (by omega)
      obtain ⟨a1, a2, a3, a4, _⟩ := hl.2 _ (List.mem_of_getElem? hx)
      rw [take_at l k _ hx, valL_snoc, valL_snoc, ih (by omega)]
      unfold wgt
      rw [h _ (by omega), h _ (by omega)]
  have := key l.length (Nat.le_refl _)
  rwa [List.take_length] at this
end Go.Proofs.Ytngonghgkeobhaa
