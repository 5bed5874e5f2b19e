/- The walk of windings: an iterator that hands over all windings. -/
import Derived.Test.YtfaogfcbppojoaaPu
import Derived.Laws.EntriesVeiled
namespace Go.Proofs.Ytfaogfcbppojoaa
open Go.RowKit Go.Shelf

theorem Holds.row {K : Nat → Prop} {a w : World} (h : Holds K a w) (g : Nat) (hg : ¬ K g) (cs : Array Value) : Holds K a (w.setRow g cs) :=
  h.trans ⟨rfl, rfl, rfl, by simp, fun k _ hk => setRow_other w g k cs (fun e => hg (e ▸ hk))⟩
/-- All windings of a presentation with d sheets, in their order. -/
def wins (g d : Nat) (rules : List ByteArray) : List (List Int) := fl d rules g (w0 g d) 0

set_option maxHeartbeats 2000000 in
theorem windings_c (v : Array Value) (d : Int) (w : World) :
    Calls Try.prog 45 #[.agg v, .int .i64 d] w fun e w' => e = .returned (.func (.func 56) #[] #[.pointer (some ⟨w.heap.size, 0, none⟩), .pointer (some ⟨w.heap.size + 1, 0, none⟩)]) ∧ (w.alloc (.cells v 30)).alloc (.cells #[.int .i64 d] 3) = w' := by
  go_enter Try.func45, Try.ntmps45
  go_wp2
  go_ret
  exact ⟨rfl, rfl⟩

set_option maxHeartbeats 2000000 in
set_option maxRecDepth 100000 in
theorem wins_iter (g d : Nat) (hg1 : g = 1 ∨ g = 2) (d1 : 1 ≤ d) (d5 : d ≤ 5) (rules : List ByteArray) (hr : wordsOk rules) (bg bd : Nat) (vr : Value) (K : Nat → Prop) (hbg : K bg) (hbd : K bd) (w1 : World) (hK : ∀ r, K r → r < w1.heap.size)
    (hgc : At w1 bg 30 #[.int .i64 g, vr]) (hdc : At w1 bd 3 #[.int .i64 d]) (hrd : ∀ X', Holds K w1 X' → RdS X' vr rules) :
    Iter Try.prog 56 #[.pointer (some ⟨bg, 0, none⟩), .pointer (some ⟨bd, 0, none⟩)] (fun _ (x : List Int) => #[.agg (ic x)]) (fun _ _ _ => True) K (wins g d rules) w1 := by
  intro n l J Jx W hW hsz hJ hJx hY h0
  have hgW := hgc.holds hW hbg
  have hdW := hdc.holds hW hbd
  have hfill := fill_c (l := l) (B := W.heap.size) (bg := bg) (bd := bd) (vr := vr) (K := K) (J := J) (Jx := Jx) (xs := wins g d rules) (n + 1) hg1 hbg hbd (fun r h => by have := hK r h; omega) d1 d5 rules hr W rfl (fun X' hh => hrd X' (hW.trans hh)) hJ hJx
    (fun k x M W1 hx hj hM hh => hY k x M W1 hx hj hM hh trivial) g 0 (by omega) 0 (fun _ => False)
  rw [Int.ofNat_zero] at hfill
  have Hfill := Lib.hid hfill
  have HJ := Lib.hid hJ
  have c0 : ∀ o, (W.alloc o).cell? ⟨bg, 0, none⟩ = some (.int .i64 g) := fun o => (hgW.alloc o).cell 0
  have c1 : ∀ o, (W.alloc o).cell? ⟨bd, 0, none⟩ = some (.int .i64 d) := fun o => (hdW.alloc o).cell 0
  clear hfill hJ hJx hY
  rw [show (#[Value.func (.yield l) #[] #[]] ++ #[Value.pointer (some ⟨bg, 0, none⟩), Value.pointer (some ⟨bd, 0, none⟩)] : Array Value) = #[.func (.yield l) #[] #[], .pointer (some ⟨bg, 0, none⟩), .pointer (some ⟨bd, 0, none⟩)] from rfl]
  go_enter Try.func56, Try.ntmps56
  go_wp2_with (refine wpList_store_row rfl 73 _ _ rfl (W.heap.size + 1) (ic (w0 g d)) rfl rfl 73 (ic (w0 0 0)) (At.new2 W _ 73 (ic (w0 0 0))) (sizeW _ rfl) rfl (ic_one _) ?_)
  refine (Hfill.out _ (w0 g d) (fun i x h => by rw [Nat.zero_add]; exact h) ?hj (fun r h => h.elim) ?hk ?hs).mono ?_
  case hj => exact HJ.out 0 _ _ _ h0 (Holds.alloc (Holds.row (((Holds.refl _ W).alloc _).alloc _) _ (by simp) _) _)
  case hk => exact Holds.alloc (Holds.row (((Holds.refl K W).alloc _).alloc _) _ (fun h => by have := hK _ h; omega) _) _
  case hs =>
    exact ⟨(((hgW.alloc _).alloc _).rowfar (by have := hgW.lt; omega) _).alloc _, (((hdW.alloc _).alloc _).rowfar (by have := hdW.lt; omega) _).alloc _, (((At.new W _ _).alloc _).rowfar (by omega) _).alloc _,
      ((At.new2 W _ 73 (ic (w0 0 0))).row (ic (w0 g d))).alloc _, At.new' _ _ (by simp) _ _, w0_ok g d, rfl, rfl⟩
  rintro e X' ⟨M', W', h1', h2', hh, _, _, hend⟩
  have hb : ∀ r, M' r → W.heap.size ≤ r ∧ r < X'.heap.size := fun r hr => ⟨by have := (h1' r hr).1; omega, (h1' r hr).2⟩
  rcases hend with ⟨rfl, hj⟩ | ⟨rfl, k, hj⟩
  · go_wp2_with fail
    go_end0
    exact ⟨⟨_, rfl⟩, M', hb, .inl (by rw [Nat.zero_add] at hj; exact hj)⟩
  · go_wp2_with fail
    go_end0
    exact ⟨⟨_, rfl⟩, M', hb, .inr ⟨k, hj⟩⟩
end Go.Proofs.Ytfaogfcbppojoaa
