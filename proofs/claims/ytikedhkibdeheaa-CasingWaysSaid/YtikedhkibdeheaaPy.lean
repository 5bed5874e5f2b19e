/- The walk of the recursion of windings, its end. The walk of the recursion of windings. -/
import Derived.Test.YtikedhkibdeheaaCf
import Derived.Test.YtikedhkibdeheaaCi
import Derived.Test.YtikedhkibdeheaaPw
import Derived.Test.YtikedhkibdeheaaCn
import Derived.Test.YtikedhkibdeheaaRl
namespace Go.Proofs.Ytikedhkibdeheaa
section
open Go.RowKit Go.Shelf
attribute [local go_sem] Oper.semAt_some

/-- What lies in memory while the windings are visited. -/
structure FSt (B l bg bd : Nat) (g d : Nat) (vr : Value) (W : List Int) (X : World) : Prop where
  hg : At X bg 25 #[.int .i64 g, vr]
  hd : At X bd 3 #[.int .i64 d]
  hy : At X B 92 #[.func (.yield l) #[] #[]]
  hw : At X (B + 1) 78 (ic W)
  hf : At X (B + 2) 65 #[.func (.func 62) #[] #[.pointer (some ⟨bg, 0, none⟩), .pointer (some ⟨B + 1, 0, none⟩), .pointer (some ⟨B, 0, none⟩), .pointer (some ⟨bd, 0, none⟩), .pointer (some ⟨B + 2, 0, none⟩)]]
  ok : wok W
  n0 : nth W 0 = g
  n1 : nth W 1 = d
def FK (B : Nat) (K M : Nat → Prop) (r : Nat) : Prop := K r ∨ (B ≤ r ∧ ¬ M r ∧ r ≠ B + 1)
def FEnd (B l bg bd : Nat) (g d : Nat) (vr : Value) (K : Nat → Prop) (J Jx : Nat → (Nat → Prop) → World → Prop) (gi : Nat) (W : List Int) (k : Nat) (M : Nat → Prop) (X : World) (e : Ending) (X' : World) : Prop :=
  ∃ (M' : Nat → Prop) (W' : List Int), (∀ r, M' r → B + 3 ≤ r ∧ r < X'.heap.size) ∧ (∀ r, M' r → M r ∨ X.heap.size ≤ r) ∧ Holds (FK B K M) X X' ∧ FSt B l bg bd g d vr W' X' ∧ SameBut g d gi W W' ∧
    ((e = .returned (.bool true) ∧ J k M' X') ∨ (e = .returned (.bool false) ∧ ∃ k', Jx k' M' X'))

theorem FSt.holds {B l bg bd g d : Nat} {vr : Value} {W : List Int} {X X' : World} {K M : Nat → Prop} (h : FSt B l bg bd g d vr W X) (hh : Holds (fun r => K r ∨ (B ≤ r ∧ ¬ M r)) X X') (hM : ∀ r, M r → B + 3 ≤ r ∧ r < X.heap.size) (hbg : K bg) (hbd : K bd) : FSt B l bg bd g d vr W X' := by
  have hn : ∀ i, i < 3 → ¬ M (B + i) := fun i hi h => by have := (hM _ h).1; omega
  exact ⟨h.hg.holds hh (.inl hbg), h.hd.holds hh (.inl hbd), h.hy.holds hh (.inr ⟨by omega, hn 0 (by omega)⟩), h.hw.holds hh (.inr ⟨by omega, hn 1 (by omega)⟩), h.hf.holds hh (.inr ⟨by omega, hn 2 (by omega)⟩), h.ok, h.n0, h.n1⟩
theorem FSt.later {B l bg bd g d : Nat} {vr : Value} {W : List Int} {X X' : World} (h : FSt B l bg bd g d vr W X) (hb : Keeps X X') : FSt B l bg bd g d vr W X' :=
  ⟨h.hg.later hb, h.hd.later hb, h.hy.later hb, h.hw.later hb, h.hf.later hb, h.ok, h.n0, h.n1⟩
/-- A result that lies in a cell. -/
theorem results_cell_one {P : Program} {fn : Func} {p : Tmp} {ty : TypeId} (hr : fn.results = #[.cell p ty]) (tmps : Array Value) (w : World) (a : Addr) (v : Value) (hp : tmps.getD p undef = .pointer (some a))
    (hagg : (isAgg ty).run P w = .ok false w) (hc : w.cell? a = some v) : (results fn tmps).run P w = .ok v w := by
  have hp' : tmps[p]?.getD undef = .pointer (some a) := by simpa using hp
  simp [results, hr, hp', asAddr, loadVar, Sem.run_bind, hagg, load, Sem.run, hc, Result.andThen]

variable {n l B bg bd g d : Nat} {vr : Value} {K : Nat → Prop} {J Jx : Nat → (Nat → Prop) → World → Prop} {xs : List (List Int)}
set_option maxHeartbeats 800000 in
set_option maxRecDepth 100000 in
theorem fill_01 (n : Nat) (hg1 : g = 1 ∨ g = 2) (hbg : K bg) (hbd : K bd) (k : Nat) (M : Nat → Prop) (X : World) (W : List Int) (hX : FSt B l bg bd g d vr W X) (hM : ∀ r, M r → B + 3 ≤ r ∧ r < X.heap.size) (hst : stdB W = false) (hJ : ∀ X', Holds (fun r => r < X.heap.size) X X' → J k M X') :
    Calls Try.prog 62 #[.int .i64 g, .pointer (some ⟨bg, 0, none⟩), .pointer (some ⟨B + 1, 0, none⟩), .pointer (some ⟨B, 0, none⟩), .pointer (some ⟨bd, 0, none⟩), .pointer (some ⟨B + 2, 0, none⟩)] X
      (FEnd B l bg bd g d vr K J Jx g W k M X) := by
  have c0 : ∀ o o', ((X.alloc o).alloc o').cell? ⟨bg, 0, none⟩ = some (.int .i64 g) := fun o o' => ((hX.hg.alloc o).alloc o').cell 0
  have hn0 : nth W 0 = 1 ∨ nth W 0 = 2 := by rw [hX.n0]; omega
  have hsz := sizeW W hX.ok.1
  have hw0 := hX.hw
  refine (callsIn_wide (n := n)).1 ?_
  refine callsIn_of_wp Try.func62 rfl trivial ?_ rfl
  simp only [Try.ntmps62, List.size_toArray, List.length_cons, List.length_nil, Nat.reduceAdd, Nat.reduceSub, Array.replicate_succ, Array.replicate_zero, List.push_toArray, List.append_toArray, List.nil_append, List.cons_append]
  gi_wp2_with (refine in_load_row rfl 78 _ rfl (B + 1) rfl 78 (ic W) _ ((hw0.alloc _).alloc _) Try.underlying78 rfl hsz ?_)
  refine ⟨trivial, fun h => by simp [Fence.wide] at h, (callsIn_wide.2 (isStandard_c W hX.ok hn0 _)).mono ?_⟩
  rintro e w1 ⟨rfl, hb1⟩
  have cr1 := (At.new2 X (.cells #[.int .i64 g] 3) 4 #[.bool false]).later hb1
  have hk1 : Keeps X w1 := Keeps.next (Keeps.alloc (Keeps.alloc (Below.refl _ X) _) _) hb1
  have fr1 := cr1.frozen 0
  have cc1 := cr1.cell 0
  simp only [List.getElem?_toArray, List.getElem?_cons_zero] at cc1
  gi_wp2
  refine ⟨trivial, ?_⟩
  repeat (first | gi_guarded | gi_step)
  refine ⟨fun _ _ => trivial, ?_⟩
  gi_wp2
  refine bodyPost_ret (v := .bool true) (results_cell_one Try.results62 _ _ ⟨X.heap.size + 1, 0, none⟩ _ rfl (Try.isAgg4 _) (cr1.set 0 (.bool true) |>.cell 0)) rfl ?_
  have hh : Holds (fun r => r < X.heap.size) X (w1.setCell ⟨X.heap.size + 1, 0, none⟩ (.bool true)) := (Holds.of_keeps hk1 _).set _ (by simp) _
  exact ⟨M, W, fun r hr => ⟨(hM r hr).1, Nat.lt_of_lt_of_le (hM r hr).2 hh.size⟩, fun r h => .inl h, hh.mono (fun r hr _ => hr), hX.holds (M := M) (hh.mono (fun r hr _ => hr)) hM hbg hbd, SameBut.refl hX.ok.1, .inl ⟨rfl, hJ _ hh⟩⟩

set_option maxHeartbeats 800000 in
set_option maxRecDepth 100000 in
theorem fill_02 (n : Nat) (hg1 : g = 1 ∨ g = 2) (hbg : K bg) (hbd : K bd) (d5 : d ≤ 5) (rules : List ByteArray) (hr : wordsOk rules) (k : Nat) (M : Nat → Prop) (X : World) (W : List Int) (hX : FSt B l bg bd g d vr W X) (hM : ∀ r, M r → B + 3 ≤ r ∧ r < X.heap.size) (hrd : ∀ X', Keeps X X' → RdS X' vr rules) (hst : stdB W = true) (hkp : keepsB W rules = false) (hJ : ∀ X', Holds (fun r => r < X.heap.size) X X' → J k M X') :
    Calls Try.prog 62 #[.int .i64 g, .pointer (some ⟨bg, 0, none⟩), .pointer (some ⟨B + 1, 0, none⟩), .pointer (some ⟨B, 0, none⟩), .pointer (some ⟨bd, 0, none⟩), .pointer (some ⟨B + 2, 0, none⟩)] X
      (FEnd B l bg bd g d vr K J Jx g W k M X) := by
  have c0 : ∀ o o', ((X.alloc o).alloc o').cell? ⟨bg, 0, none⟩ = some (.int .i64 g) := fun o o' => ((hX.hg.alloc o).alloc o').cell 0
  have hn0 : nth W 0 = 1 ∨ nth W 0 = 2 := by rw [hX.n0]; omega
  have hsz := sizeW W hX.ok.1
  have hw0 := hX.hw
  refine (callsIn_wide (n := n)).1 ?_
  refine callsIn_of_wp Try.func62 rfl trivial ?_ rfl
  simp only [Try.ntmps62, List.size_toArray, List.length_cons, List.length_nil, Nat.reduceAdd, Nat.reduceSub, Array.replicate_succ, Array.replicate_zero, List.push_toArray, List.append_toArray, List.nil_append, List.cons_append]
  gi_wp2_with (refine in_load_row rfl 78 _ rfl (B + 1) rfl 78 (ic W) _ ((hw0.alloc _).alloc _) Try.underlying78 rfl hsz ?_)
  refine ⟨trivial, fun h => by simp [Fence.wide] at h, (callsIn_wide.2 (isStandard_c W hX.ok hn0 _)).mono ?_⟩
  rintro e w1 ⟨rfl, hb1⟩
  have cr1 := (At.new2 X (.cells #[.int .i64 g] 3) 4 #[.bool false]).later hb1
  have hk1 : Keeps X w1 := Keeps.next (Keeps.alloc (Keeps.alloc (Below.refl _ X) _) _) hb1
  have fr1 := cr1.frozen 0
  have cc1 := cr1.cell 0
  simp only [List.getElem?_toArray, List.getElem?_cons_zero] at cc1
  have hw1 : At w1 (B + 1) 78 (ic W) := hw0.later hk1
  have cg1 : w1.cell? ⟨bg, 1, none⟩ = some vr := (hX.hg.later hk1).cell 1
  gi_wp2_with (refine in_load_row' rfl 78 _ rfl (B + 1) rfl 78 (ic W) _ hw1 Try.underlying78 rfl hsz ?_)
  refine ⟨trivial, fun h => by simp [Fence.wide] at h, (callsIn_wide.2 (keeps_c W hX.ok (by rw [hX.n1]; omega) vr rules hr w1 (hrd w1 hk1))).mono ?_⟩
  rintro e w2 ⟨rfl, hb2⟩
  have hk2 : Keeps X w2 := Keeps.next hk1 hb2
  have cr2 := cr1.later hb2
  have fr2 := cr2.frozen 0
  have cc2 := cr2.cell 0
  simp only [List.getElem?_toArray, List.getElem?_cons_zero] at cc2
  simp only [hkp]
  repeat (first | gi_guarded | gi_step)
  refine ⟨fun _ _ => trivial, ?_⟩
  gi_wp2
  refine bodyPost_ret (v := .bool true) (results_cell_one Try.results62 _ _ ⟨X.heap.size + 1, 0, none⟩ _ rfl (Try.isAgg4 _) (cr2.set 0 (.bool true) |>.cell 0)) rfl ?_
  have hh : Holds (fun r => r < X.heap.size) X (w2.setCell ⟨X.heap.size + 1, 0, none⟩ (.bool true)) := (Holds.of_keeps hk2 _).set _ (by simp) _
  exact ⟨M, W, fun r hr => ⟨(hM r hr).1, Nat.lt_of_lt_of_le (hM r hr).2 hh.size⟩, fun r h => .inl h, hh.mono (fun r hr _ => hr), hX.holds (M := M) (hh.mono (fun r hr _ => hr)) hM hbg hbd, SameBut.refl hX.ok.1, .inl ⟨rfl, hJ _ hh⟩⟩

set_option maxHeartbeats 800000 in
set_option maxRecDepth 100000 in
theorem fill_03 (n : Nat) (hg1 : g = 1 ∨ g = 2) (hbg : K bg) (hbd : K bd) (d5 : d ≤ 5) (rules : List ByteArray) (hr : wordsOk rules) (k : Nat) (M : Nat → Prop) (X : World) (W : List Int) (hX : FSt B l bg bd g d vr W X) (hM : ∀ r, M r → B + 3 ≤ r ∧ r < X.heap.size) (hrd : ∀ X', Keeps X X' → RdS X' vr rules) (hst : stdB W = true) (hkp : keepsB W rules = true) (hY : ∀ X', Keeps X X' → YieldAt Fence.wide (n - 1) Try.prog l #[.agg (ic W)] X' (RoundOk B K J Jx k M X'))
    (hJ : ∀ k M X', J k M X' → ∀ (g : Nat) (o : Nat) (u : Value), B ≤ g → ¬ M g → J k M (X'.setCell ⟨g, o, none⟩ u)) (hJx : ∀ k M X', Jx k M X' → ∀ (g : Nat) (o : Nat) (u : Value), B ≤ g → ¬ M g → Jx k M (X'.setCell ⟨g, o, none⟩ u)) :
    Calls Try.prog 62 #[.int .i64 g, .pointer (some ⟨bg, 0, none⟩), .pointer (some ⟨B + 1, 0, none⟩), .pointer (some ⟨B, 0, none⟩), .pointer (some ⟨bd, 0, none⟩), .pointer (some ⟨B + 2, 0, none⟩)] X
      (FEnd B l bg bd g d vr K J Jx g W (k + 1) M X) := by
  have c0 : ∀ o o', ((X.alloc o).alloc o').cell? ⟨bg, 0, none⟩ = some (.int .i64 g) := fun o o' => ((hX.hg.alloc o).alloc o').cell 0
  have hn0 : nth W 0 = 1 ∨ nth W 0 = 2 := by rw [hX.n0]; omega
  have hsz := sizeW W hX.ok.1
  have hw0 := hX.hw
  refine (callsIn_wide (n := n)).1 ?_
  refine callsIn_of_wp Try.func62 rfl trivial ?_ rfl
  simp only [Try.ntmps62, List.size_toArray, List.length_cons, List.length_nil, Nat.reduceAdd, Nat.reduceSub, Array.replicate_succ, Array.replicate_zero, List.push_toArray, List.append_toArray, List.nil_append, List.cons_append]
  gi_wp2_with (refine in_load_row rfl 78 _ rfl (B + 1) rfl 78 (ic W) _ ((hw0.alloc _).alloc _) Try.underlying78 rfl hsz ?_)
  refine ⟨trivial, fun h => by simp [Fence.wide] at h, (callsIn_wide.2 (isStandard_c W hX.ok hn0 _)).mono ?_⟩
  rintro e w1 ⟨rfl, hb1⟩
  have cr1 := (At.new2 X (.cells #[.int .i64 g] 3) 4 #[.bool false]).later hb1
  have hk1 : Keeps X w1 := Keeps.next (Keeps.alloc (Keeps.alloc (Below.refl _ X) _) _) hb1
  have fr1 := cr1.frozen 0
  have cc1 := cr1.cell 0
  simp only [List.getElem?_toArray, List.getElem?_cons_zero] at cc1
  have hw1 : At w1 (B + 1) 78 (ic W) := hw0.later hk1
  have cg1 : w1.cell? ⟨bg, 1, none⟩ = some vr := (hX.hg.later hk1).cell 1
  gi_wp2_with (refine in_load_row' rfl 78 _ rfl (B + 1) rfl 78 (ic W) _ hw1 Try.underlying78 rfl hsz ?_)
  refine ⟨trivial, fun h => by simp [Fence.wide] at h, (callsIn_wide.2 (keeps_c W hX.ok (by rw [hX.n1]; omega) vr rules hr w1 (hrd w1 hk1))).mono ?_⟩
  rintro e w2 ⟨rfl, hb2⟩
  have hk2 : Keeps X w2 := Keeps.next hk1 hb2
  have cr2 := cr1.later hb2
  have fr2 := cr2.frozen 0
  have cc2 := cr2.cell 0
  simp only [List.getElem?_toArray, List.getElem?_cons_zero] at cc2
  have hw2 : At w2 (B + 1) 78 (ic W) := hw1.later hb2
  have cy2 : w2.cell? ⟨B, 0, none⟩ = some (.func (.yield l) #[] #[]) := (hX.hy.later hk2).cell 0
  have hX2 := hX.later hk2
  have hlt2 := cr2.lt
  obtain ⟨fn, tmps, assign, body, hy, hR⟩ := hY w2 hk2
  simp only [hkp]
  repeat (first | (refine in_load_row' rfl 78 _ rfl (B + 1) rfl 78 (ic W) _ hw2 Try.underlying78 rfl hsz ?_) | gi_guarded | gi_step)
  have hlf := hX.hf.lt
  refine ⟨fun h => by simp [Fence.wide] at h, hR.mono ?_⟩
  rintro e X' ⟨M', h1, h2, hh, hend⟩
  have hn : ¬ M' (X.heap.size + 1) := fun h => (h2 _ h).elim (fun h => by have := (hM _ h).2; omega) (fun h => by omega)
  have cr3 := cr2.holds hh (.inr ⟨by omega, fun h => by have := (hM _ h).2; omega⟩)
  have fr3 := cr3.frozen 0
  have cc3 := cr3.cell 0
  simp only [List.getElem?_toArray, List.getElem?_cons_zero] at cc3
  have hXX : ∀ u, Holds (fun r => r < X.heap.size ∧ (K r ∨ (B ≤ r ∧ ¬ M r))) X (X'.setCell ⟨X.heap.size + 1, 0, none⟩ u) := fun u =>
    ((Holds.of_keeps hk2 _).trans2 hh (fun r _ h => h.2)).set _ (fun h => absurd h.1 (by simp)) u
  rcases hend with ⟨rfl, hj⟩ | ⟨rfl, hj⟩
  · gi_wp2
    refine bodyPost_ret (v := .bool true) (results_cell_one Try.results62 _ _ ⟨X.heap.size + 1, 0, none⟩ _ rfl (Try.isAgg4 _) (cr3.set 0 (.bool true) |>.cell 0)) rfl ?_
    have hx := hXX (.bool true)
    exact ⟨M', W, fun r hr => ⟨(h2 r hr).elim (fun h => (hM r h).1) (fun h => by omega), by simpa [World.setCell] using h1 r hr⟩, fun r h => (h2 r h).imp id (fun h => by have := hk2.size; omega), hx.mono (fun r hr h => ⟨hr, h.imp id (fun h => ⟨h.1, h.2.1⟩)⟩), hX.holds (M := M) (hx.mono (fun r hr h => ⟨hr, h⟩)) hM hbg hbd, SameBut.refl hX.ok.1, .inl ⟨rfl, hJ _ _ _ hj _ _ _ (by omega) hn⟩⟩
  · gi_wp2
    refine bodyPost_ret (v := .bool false) (results_cell_one Try.results62 _ _ ⟨X.heap.size + 1, 0, none⟩ _ rfl (Try.isAgg4 _) (cr3.set 0 (.bool false) |>.cell 0)) rfl ?_
    have hx := hXX (.bool false)
    exact ⟨M', W, fun r hr => ⟨(h2 r hr).elim (fun h => (hM r h).1) (fun h => by omega), by simpa [World.setCell] using h1 r hr⟩, fun r h => (h2 r h).imp id (fun h => by have := hk2.size; omega), hx.mono (fun r hr h => ⟨hr, h.imp id (fun h => ⟨h.1, h.2.1⟩)⟩), hX.holds (M := M) (hx.mono (fun r hr h => ⟨hr, h⟩)) hM hbg hbd, SameBut.refl hX.ok.1, .inr ⟨rfl, _, hJx _ _ _ hj _ _ _ (by omega) hn⟩⟩
end
section
open Go.RowKit Go.Shelf
attribute [local go_sem] Oper.semAt_some

/-- Between two permutations. -/
def FI (B l bg bd g d : Nat) (vr : Value) (K M0 : Nat → Prop) (X : World) (gi : Nat) (W : List Int) (JJ : (Nat → Prop) → World → Prop) (M : Nat → Prop) (Z : World) : Prop :=
  ∃ (Mo : Nat → Prop) (W' : List Int), JJ Mo Z ∧ (∀ r, Mo r → B + 3 ≤ r ∧ r < Z.heap.size) ∧ (∀ r, Mo r → M0 r ∨ M r) ∧ Holds (FK B K M0) X Z ∧ FSt B l bg bd g d vr W' Z ∧ SameBut g d gi W W' ∧
    At Z X.heap.size 3 #[.int .i64 gi] ∧ At Z (X.heap.size + 1) 4 #[.bool false]
theorem FSt.holds2 {B l bg bd g d : Nat} {vr : Value} {W : List Int} {X X' : World} {Kx : Nat → Prop} (h : FSt B l bg bd g d vr W X) (hh : Holds Kx X X') (k1 : Kx bg) (k2 : Kx bd) (k3 : Kx B) (k4 : Kx (B + 1)) (k5 : Kx (B + 2)) : FSt B l bg bd g d vr W X' :=
  ⟨h.hg.holds hh k1, h.hd.holds hh k2, h.hy.holds hh k3, h.hw.holds hh k4, h.hf.holds hh k5, h.ok, h.n0, h.n1⟩
theorem FI.stable {B l bg bd g d : Nat} {vr : Value} {K M0 : Nat → Prop} {X : World} {gi : Nat} {W : List Int} {JJ : (Nat → Prop) → World → Prop} (hJ : Stable B JJ) {S : Nat} (hS : X.heap.size + 3 ≤ S) (hM0 : ∀ r, M0 r → r < X.heap.size) (hB : B + 2 < X.heap.size) (hbg : bg < X.heap.size) (hbd : bd < X.heap.size) :
    Stable S (FI B l bg bd g d vr K M0 X gi W JJ) := by
  rintro M Z Z' ⟨Mo, W', h1, h2, h3, h4, h5, h6, h7, h8⟩ hh
  exact ⟨Mo, W', hJ _ _ _ h1 (hh.mono fun r _ h => h.elim (fun h => .inl (by omega)) (fun h => (h3 r h).elim (fun h => .inl (by have := hM0 r h; omega)) .inr)), fun r hr => ⟨(h2 r hr).1, by have := (h2 r hr).2; have := hh.size; omega⟩, h3,
    ⟨hh.os.trans h4.os, hh.tape.trans h4.tape, hh.output.trans h4.output, Nat.le_trans h4.size hh.size, fun r hr hK => (hh.block r (by have := h4.size; omega) (.inl (by omega))).trans (h4.block r hr hK)⟩,
    h5.holds2 hh (.inl (by omega)) (.inl (by omega)) (.inl (by omega)) (.inl (by omega)) (.inl (by omega)), h6, h7.holds hh (.inl (by omega)), h8.holds hh (.inl (by omega))⟩
theorem FI.setr {B l bg bd g d : Nat} {vr : Value} {K M0 : Nat → Prop} {X : World} {gi : Nat} {W : List Int} {JJ : (Nat → Prop) → World → Prop} (hJ : Stable B JJ) (hM0 : ∀ r, M0 r → r < X.heap.size) (hB : B + 2 < X.heap.size) (hbg : bg < X.heap.size) (hbd : bd < X.heap.size) {M : Nat → Prop} {Z : World} (hM : ∀ r, M r → X.heap.size + 3 ≤ r)
    (h : FI B l bg bd g d vr K M0 X gi W JJ M Z) : FI B l bg bd g d vr K M0 X gi W JJ M (Z.setCell ⟨X.heap.size + 1, 0, none⟩ (.bool false)) := by
  obtain ⟨Mo, W', h1, h2, h3, h4, h5, h6, h7, h8⟩ := h
  have hh : Holds (fun r => r ≠ X.heap.size + 1) Z (Z.setCell ⟨X.heap.size + 1, 0, none⟩ (.bool false)) := (Holds.refl _ Z).set _ (by simp) _
  exact ⟨Mo, W', hJ _ _ _ h1 (hh.mono fun r _ h => h.elim (fun h => by omega) (fun h => (h3 r h).elim (fun h => by have := hM0 r h; omega) (fun h => by have := hM r h; omega))), fun r hr => ⟨(h2 r hr).1, Nat.lt_of_lt_of_le (h2 r hr).2 hh.size⟩, h3,
    h4.trans2 hh (fun r hr _ => by omega), h5.holds2 hh (by omega) (by omega) (by omega) (by omega) (by omega), h6, h7.holds hh (by omega), h8.set 0 (.bool false)⟩
theorem RdI_at {Z : World} {b : Nat} {t : TypeId} {x : List Int} (h : At Z b t (ic x)) (hm : x.length ≤ maxLen) (c : Nat) : RdI Z (.slice (some ⟨b, 0, none⟩) x.length c) x :=
  ⟨some ⟨b, 0, none⟩, c, rfl, hm, fun k hk => ⟨b, 0, _, rfl, by rw [Nat.zero_add]; exact h.int k hk, rfl⟩⟩

variable {n l B bg bd g d : Nat} {vr : Value} {K : Nat → Prop} {J Jx : Nat → (Nat → Prop) → World → Prop} {xs : List (List Int)}
/-- The last steps. -/
theorem fill_end {gi : Nat} {W : List Int} {k : Nat} {M M1 : Nat → Prop} {X Z X' : World} {JJ : (Nat → Prop) → World → Prop} (b : Bool) (S : Nat) (hS : X.heap.size + 3 ≤ S) (hM : ∀ r, M r → B + 3 ≤ r ∧ r < X.heap.size) (hB : B + 2 < X.heap.size) (hbg : bg < X.heap.size) (hbd : bd < X.heap.size)
    (hJ : Stable B JJ) (hI : FI B l bg bd g d vr K M X gi W JJ M1 Z) (hM1 : ∀ r, M1 r → S + 2 ≤ r) (hZ : Holds (fun r => r ≠ X.heap.size + 1 ∧ r ≠ S) Z X') (hf : ∀ Mo, JJ Mo X' → (Ending.returned (.bool b) = .returned (.bool true) ∧ J k Mo X') ∨ (Ending.returned (.bool b) = .returned (.bool false) ∧ ∃ k', Jx k' Mo X')) :
    FEnd B l bg bd g d vr K J Jx gi W k M X (.returned (.bool b)) X' := by
  obtain ⟨Mo, W', h1, h2, h3, h4, h5, h6, h7, h8⟩ := hI
  refine ⟨Mo, W', fun r hr => ⟨(h2 r hr).1, by have := (h2 r hr).2; have := hZ.size; omega⟩, fun r hr => (h3 r hr).imp id (fun h => by have := hM1 r h; omega), h4.trans2 hZ (fun r hr _ => ⟨by omega, by omega⟩),
    h5.holds2 hZ ⟨by omega, by omega⟩ ⟨by omega, by omega⟩ ⟨by omega, by omega⟩ ⟨by omega, by omega⟩ ⟨by omega, by omega⟩, h6, hf Mo (hJ _ _ _ h1 (hZ.mono fun r _ h => ?_))⟩
  rcases h with h | h
  · exact ⟨by omega, by omega⟩
  · rcases h3 r h with h | h
    · have := (hM r h).2; exact ⟨by omega, by omega⟩
    · have := hM1 r h; exact ⟨by omega, by omega⟩
end
end Go.Proofs.Ytikedhkibdeheaa
