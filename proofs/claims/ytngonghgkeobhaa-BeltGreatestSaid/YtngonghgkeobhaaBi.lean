/- A side as a text; Best. -/
import Derived.Test.YtngonghgkeobhaaBh
import Derived.Laws.MakeOwn
import Derived.Laws.BytesArg
import Derived.Laws.BytesString
namespace Go.Proofs.Ytngonghgkeobhaa
open Go.RowKit Go.Shelf
set_option linter.unusedVariables false
set_option linter.unusedSimpArgs false

def bytes (l : List UInt8) : List Value := l.map fun c => Value.int .u8 c.toNat
theorem bytes_length (l : List UInt8) : (bytes l).length = l.length := by simp [bytes]
theorem infoB8 : (Try.prog.info? 5).map (fun i => (i.zero, i.size, i.bytes)) = some (some (.int .u8 0), 1, 1) := by kernel_rfl
theorem info_parts8 {P : Program} {t : TypeId} {z : Value} {s b : Nat} (h : (P.info? t).map (fun i => (i.zero, i.size, i.bytes)) = some (some z, s, b)) : ∃ i, P.info? t = some i ∧ i.zero = some z ∧ i.size = s ∧ i.bytes = b := by
  obtain ⟨i, hi, he⟩ := Option.map_eq_some_iff.1 h
  simp only [Prod.mk.injEq] at he
  exact ⟨i, hi, he.1, he.2.1, he.2.2⟩
/-- The first k characters of a side's text, and zeros up to n. -/
def rowT (t : List UInt8) (n k : Nat) : Array Value := (bytes (t.take k) ++ List.replicate (n - k) (Value.int .u8 0)).toArray
theorem makeB (m : Int) (n : Nat) (h : m = n) (hn : n ≤ 1000) (w : World) : (Instr.makeSlice 57 (.int .i64 m) (.int .i64 m)).run Try.prog w = .ok (.slice (some ⟨w.heap.size, 0, none⟩) n n) (w.alloc (.cells (Array.replicate n (Value.int .u8 0)) 5)) := by
  obtain ⟨i0, hi, hz0, hz1, hz2⟩ := info_parts8 infoB8
  subst h
  have := run_makeSlice (P := Try.prog) (w := w) 57 5 i0 (.int .u8 0) Try.underlying57 hi hz0 .i64 .i64 n n (by omega) (by omega) (by rw [hz1]; omega) (by rw [hz2]; omega) (by omega)
  rw [this, hz1, Int.toNat_natCast]
  show Result.ok _ (w.alloc (.cells (madeCells #[Value.int .u8 0] (n * 1)) _)) = _
  have e : madeCells #[Value.int .u8 0] (n * 1) = (Array.replicate n (Value.int .u8 0)) := by
    apply Array.toList_inj.1
    rw [Nat.mul_one, toList_madeCells_one, Array.toList_replicate]
  rw [e]
def chT (s v : Nat) : UInt8 := if hs s v then 49 else 48
/-- The text of a side. -/
def txt (s n : Nat) : List UInt8 := (List.range n).map (chT s)
theorem txt_length (s n : Nat) : (txt s n).length = n := by simp [txt]
theorem txt_at (s n k : Nat) (h : k < n) : (txt s n)[k]? = some (chT s k) := by simp [txt, h]
theorem txt_take (s n k : Nat) (h : k < n) : (txt s n).take (k + 1) = (txt s n).take k ++ [chT s k] := take_at _ _ _ (txt_at s n k h)
theorem rowT_set (s n k : Nat) (h : k < n) : (rowT (txt s n) n k).setIfInBounds k (.int .u8 (chT s k).toNat) = rowT (txt s n) n (k + 1) := by
  unfold rowT
  rw [fill_row _ n k _ _ (by rw [bytes_length, List.length_take, txt_length]; omega) h, txt_take s n k h]
  simp [bytes]
theorem rowT_get (s n k : Nat) (h : k < n) : (rowT (txt s n) n k)[k]? = some (.int .u8 0) := by
  unfold rowT
  exact row_at _ n k _ (by rw [bytes_length, List.length_take, txt_length]; omega) h
theorem rowT_put (s n k : Nat) (h : k < n) (u : Value) : ((rowT (txt s n) n k).setIfInBounds k u)[k]? = some u := by
  have := (Array.getElem?_eq_some_iff.1 (rowT_get s n k h)).1
  simp [Array.getElem?_setIfInBounds, this]
theorem rowT_twice (s n k : Nat) (a b : Value) : ((rowT (txt s n) n k).setIfInBounds k a).setIfInBounds k b = (rowT (txt s n) n k).setIfInBounds k b := by simp [Array.setIfInBounds_setIfInBounds]
set_option maxHeartbeats 4000000 in
set_option maxRecDepth 100000 in
theorem text_c (s n : Nat) (hn : n ≤ 12) (h : s < 65536) (w : World) :
    Calls Try.prog 36 #[.int .u16 s, .int .i64 n] w fun e w' => e = .returned (.string ⟨(txt s n).toArray⟩) ∧ Keeps w w' := by
  have hmk := makeB (n : Int) n rfl (by omega)
  go_enter Try.func36, Try.ntmps36
  go_wp2_with fail
  have g0 : At (w.alloc (.cells (Array.replicate n (Value.int .u8 0)) 5)) w.heap.size 5 (rowT (txt s n) n 0) := by
    rw [show rowT (txt s n) n 0 = (Array.replicate n (Value.int .u8 0)) by simp [rowT, bytes]]
    exact At.new _ _ _
  have k0 : Keeps w (w.alloc (.cells (Array.replicate n (Value.int .u8 0)) 5)) := Keeps.alloc (Below.refl _ _) _
  generalize (w.alloc (.cells (Array.replicate n (Value.int .u8 0)) 5)) = W at *
  clear hmk
  go_loopw [11] (fun i wr => ∃ k : Nat, k ≤ n ∧ i = .int .i64 k ∧ At wr w.heap.size 5 (rowT (txt s n) n k) ∧ Keeps w wr) (fun i _ => n - (intOf i).toNat)
  case atStart => exact ⟨0, Nat.zero_le _, rfl, g0, k0⟩
  case round =>
    clear g0 k0
    obtain ⟨k, hk, rfl, g0, hb⟩ := hrel
    generalize wr = w0 at *
    by_cases hlt : k < n
    rotate_left
    · obtain rfl : k = n := by omega
      have hkI : decide ((k : Int) < (k : Int)) = false := by simp
      have cv : (convert 57 9 (.slice (some ⟨w.heap.size, 0, none⟩) k k)).run Try.prog w0 = .ok (.string ⟨(txt s k).toArray⟩) w0 := by
        have := run_convert_bytes_back (P := Try.prog) w0 57 9 5 ⟨w.heap.size, 0, none⟩ k (txt s k) Try.underlying57 Try.underlying5 Try.underlying9 (fun j hj => by
          rw [show (⟨w.heap.size, 0, none⟩ : Addr).add j = ⟨w.heap.size, j, none⟩ from by unfold Addr.add; split <;> simp_all, g0.cell]
          simp [rowT, bytes, List.take_of_length_le (Nat.le_of_eq (txt_length s k)), List.getElem?_eq_getElem hj])
        rw [txt_length] at this
        exact this
      go_wp2_with fail
      go_ret
      exact ⟨rfl, hb⟩
    have hkI : (k : Int) < (n : Int) := by omega
    have qk : IntKind.i64.wrap ((k : Int) + 1) = (k : Int) + 1 := IntWalk.i64_in _ (by omega)
    have hc := fun z => has_c s k (by omega) h z
    have c0 := g0.cell k
    have f0 := g0.frozen k
    rw [rowT_get s n k hlt] at c0
    have g1 := g0.set k (.int .u8 48)
    have hr := rowT_set s n k hlt
    have hrt := rowT_twice s n k (.int .u8 48) (.int .u8 49)
    have k1 := Keeps.setp hb w.heap.size (Nat.le_refl _) k (.int .u8 48)
    unfold chT at hr
    have HR := Lib.hid hr
    have HRT := Lib.hid hrt
    clear hr hrt
    go_upto_region 6 with (fail)
    generalize (w0.setCell ⟨w.heap.size, k, none⟩ (.int .u8 48)) = w1 at *
    clear c0 f0
    cases hb1 : hs s k
    · rw [hb1] at hc HR
      go_wp2_with (go_at_call 55; refine (hc _).mono ?_; rintro e w2 ⟨rfl, rfl⟩)
      go_roundw
      case rel => exact ⟨k + 1, hlt, by go_num, by have := HR.out; simp at this; rw [← this]; exact g1, k1⟩
      case measure => simp [intOf]; omega
    · rw [hb1] at hc HR
      have f1 := g1.frozen k
      have c1 : w1.cell? ⟨w.heap.size, k, none⟩ = some (.int .u8 48) := by
        rw [g1.cell]
        exact rowT_put s n k hlt _
      go_wp2_with (go_at_call 55; refine (hc _).mono ?_; rintro e w2 ⟨rfl, rfl⟩)
      go_roundw
      case rel =>
        refine ⟨k + 1, hlt, by go_num, ?_, Keeps.setp k1 _ (Nat.le_refl _) _ _⟩
        have := HR.out
        simp at this
        rw [← this, ← HRT.out]
        exact g1.set k _
      case measure => simp [intOf]; omega
end Go.Proofs.Ytngonghgkeobhaa
