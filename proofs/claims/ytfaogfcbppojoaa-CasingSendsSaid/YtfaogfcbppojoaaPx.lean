/- The walk of permutations: an iterator that hands over all permutations. -/
import Derived.Test.YtfaogfcbppojoaaPw
import Derived.Laws.EntriesVeiled
namespace Go.Proofs.Ytfaogfcbppojoaa
open Go.RowKit Go.Shelf

theorem makeD1 (w : World) : (Instr.makeSlice 32 (.int .i64 1) (.int .i64 1)).run Try.prog w = .ok (.slice (some ⟨w.heap.size, 0, none⟩) 1 1) (w.alloc (.cells (ic (List.replicate 1 0)) 3)) := by kernel_rfl
theorem makeD2 (w : World) : (Instr.makeSlice 32 (.int .i64 2) (.int .i64 2)).run Try.prog w = .ok (.slice (some ⟨w.heap.size, 0, none⟩) 2 2) (w.alloc (.cells (ic (List.replicate 2 0)) 3)) := by kernel_rfl
theorem makeD3 (w : World) : (Instr.makeSlice 32 (.int .i64 3) (.int .i64 3)).run Try.prog w = .ok (.slice (some ⟨w.heap.size, 0, none⟩) 3 3) (w.alloc (.cells (ic (List.replicate 3 0)) 3)) := by kernel_rfl
theorem makeD4 (w : World) : (Instr.makeSlice 32 (.int .i64 4) (.int .i64 4)).run Try.prog w = .ok (.slice (some ⟨w.heap.size, 0, none⟩) 4 4) (w.alloc (.cells (ic (List.replicate 4 0)) 3)) := by kernel_rfl
theorem makeD5 (w : World) : (Instr.makeSlice 32 (.int .i64 5) (.int .i64 5)).run Try.prog w = .ok (.slice (some ⟨w.heap.size, 0, none⟩) 5 5) (w.alloc (.cells (ic (List.replicate 5 0)) 3)) := by kernel_rfl
theorem makeD (d : Nat) (h1 : 1 ≤ d) (h5 : d ≤ 5) (w : World) : (Instr.makeSlice 32 (.int .i64 d) (.int .i64 d)).run Try.prog w = .ok (.slice (some ⟨w.heap.size, 0, none⟩) d d) (w.alloc (.cells (ic (List.replicate d 0)) 3)) := by
  have : d = 1 ∨ d = 2 ∨ d = 3 ∨ d = 4 ∨ d = 5 := by omega
  rcases this with rfl | rfl | rfl | rfl | rfl
  · exact makeD1 w
  · exact makeD2 w
  · exact makeD3 w
  · exact makeD4 w
  · exact makeD5 w

set_option maxHeartbeats 2000000 in
theorem permutations_c (d : Int) (w : World) :
    Calls Try.prog 58 #[.int .i64 d] w fun e w' => e = .returned (.func (.func 61) #[] #[.pointer (some ⟨w.heap.size, 0, none⟩)]) ∧ w.alloc (.cells #[.int .i64 d] 3) = w' := by
  go_enter Try.func58, Try.ntmps58
  go_wp2
  go_ret
  exact ⟨rfl, rfl⟩

set_option maxHeartbeats 4000000 in
set_option maxRecDepth 100000 in
theorem perms_iter (d : Nat) (h1 : 1 ≤ d) (h5 : d ≤ 5) (bd : Nat) (K : Nat → Prop) (hbd : K bd) (w0 : World) (hK : ∀ r, K r → r < w0.heap.size) (hd : At w0 bd 3 #[.int .i64 d]) :
    Iter Try.prog 61 #[.pointer (some ⟨bd, 0, none⟩)] (fun B (_ : List Int) => #[.slice (some ⟨B + 1, 0, none⟩) d d]) (fun B x W1 => At W1 (B + 1) 3 (ic x)) K (perms d) w0 := by
  intro n l J Jx W hW hsz hJ hJx hY h0
  have hdW := hd.holds hW hbd
  have hplace := place_c (n := n + 1) (l := l) (B := W.heap.size) (d := d) (bd := bd) (K := K) (J := J) (Jx := Jx) (xs := perms d) h5 hbd (fun r hr => by have := hK r hr; omega) W hJ hJx hY
    d [] 0 (fun _ => False)
  rw [show (([] : List Int).length : Int) = 0 from rfl] at hplace
  have Hplace := Lib.hid hplace
  have HJ := Lib.hid hJ
  have HY := Lib.hid hY
  have hmk := makeD d h1 h5
  have c0 : ∀ o, (W.alloc o).cell? ⟨bd, 0, none⟩ = some (.int .i64 d) := fun o => (hdW.alloc o).cell 0
  clear hplace hJ hJx hY
  rw [show (#[Value.func (.yield l) #[] #[]] ++ #[Value.pointer (some ⟨bd, 0, none⟩)] : Array Value) = #[.func (.yield l) #[] #[], .pointer (some ⟨bd, 0, none⟩)] from rfl]
  go_enter Try.func61, Try.ntmps61
  go_wp2_with fail
  refine (Hplace.out _ (List.replicate d 0) (by simp) (fun i x h => by rw [Nat.zero_add]; exact h) ?hj (fun r h => h.elim) ?hk ?hs).mono ?_
  case hj => exact HJ.out 0 _ _ _ h0 (((((((Holds.refl _ W).alloc _).alloc _).alloc _).alloc _).alloc _).mono (fun _ _ h => h))
  case hk => exact (((((Holds.refl K W).alloc _).alloc _).alloc _).alloc _).alloc _
  case hs =>
    exact ⟨((((hdW.alloc _).alloc _).alloc _).alloc _).alloc _, ((((At.new W _ _).alloc _).alloc _).alloc _).alloc _, (((At.new2 W _ _ _).alloc _).alloc _).alloc _, by simp, by simp,
      ((At.new' _ _ (by simp) _ _).alloc _).alloc _, (At.new' _ _ (by simp) _ (tk [] 5)).alloc _, At.new' _ _ (by simp) _ _⟩
  rintro e X' ⟨M', h1', h2', hh, _, hend⟩
  have hb : ∀ r, M' r → W.heap.size ≤ r ∧ r < X'.heap.size := fun r hr => ⟨by have := (h1' r hr).1; omega, (h1' r hr).2⟩
  rcases hend with ⟨rfl, hj⟩ | ⟨rfl, k, hj⟩
  · go_wp2_with fail
    go_end0
    exact ⟨⟨_, rfl⟩, M', hb, .inl (by rw [Nat.zero_add] at hj; exact hj)⟩
  · go_wp2_with fail
    go_end0
    exact ⟨⟨_, rfl⟩, M', hb, .inr ⟨k, hj⟩⟩
end Go.Proofs.Ytfaogfcbppojoaa
