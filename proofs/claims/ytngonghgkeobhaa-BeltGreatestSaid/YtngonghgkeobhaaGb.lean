/- The program's Values. -/
import Derived.Test.YtngonghgkeobhaaGa
import Derived.Test.YtngonghgkeobhaaBk
import Derived.Test.YtngonghgkeobhaaBn
import Derived.Maps.Own
namespace Go.Proofs.Ytngonghgkeobhaa
open Go.RowKit Go.Shelf Go.Maps Go.Sort
set_option linter.unusedVariables false
set_option linter.unusedSimpArgs false

theorem kInt : Keyed Try.prog 3 := int_keyed Try.underlying3
/-- The map holds true at these keys, and no other. -/
def HasL (D : DataW Unit) (l : List Int) : Prop := IsMap D ∧ ∀ x : Int, Maps.has D (.int .i64 x) = decide (x ∈ l)
theorem HasL.put {D : DataW Unit} {l : List Int} (h : HasL D l) (y : Int) (d : DataW Unit) : HasL (D.put (.int .i64 y) d) (l ++ [y]) := by
  refine ⟨h.1.put _ _, fun x => ?_⟩
  by_cases e : x = y
  · subst e
    rw [has_put_same h.1 (by trivial)]; simp
  · rw [has_put_other (fun h => e (by injection h)), h.2 x, decide_eq_decide]; simp [e]
theorem own_low {w : World} {base base' size n : Nat} {e : TypeId} {v : Value} {xs : List Value} (h : w.ownsRow base e size v n xs) (hb : base' ≤ base) : w.ownsRow base' e size v n xs := by
  refine ⟨h.1, ?_⟩
  rcases h.2 with h | ⟨g, cap, cur, hv, h1, r⟩
  · exact .inl h
  · exact .inr ⟨g, cap, cur, hv, Nat.le_trans hb h1, r⟩
theorem map_holds {K : Nat → Prop} {H : Type} {P : Program} {k : TypeId} {R : Value → Option (DataW H × List MemPlace)} {w w' : World} {b n : Nat} {D : DataW H} (h : w.ownsMap P k R b n D) (hh : Holds K w w') (hk : K b) : w'.ownsMap P k R b n D := by
  have hl := h.lt
  obtain ⟨es, clock, hb, r⟩ := h
  exact ⟨es, clock, (hh.block b hl hk).trans hb, r⟩
theorem map_keeps {H : Type} {P : Program} {k : TypeId} {R : Value → Option (DataW H × List MemPlace)} {w w' : World} {b n : Nat} {D : DataW H} (h : w.ownsMap P k R b n D) (hh : Keeps w w') : w'.ownsMap P k R b n D := map_holds h (Holds.of_keeps hh (fun _ => True)) trivial
/-- The sorted keys are the list that is sorted and has the same members. -/
theorem keys_sorted {P : Program} {R0 : Value → Option (DataW Unit × List MemPlace)} {w : World} {b n : Nat} {k : TypeId} {D : DataW Unit} (h : w.ownsMap P k R0 b n D) (K : Keyed P k) (hk : P.underlying k = some (.int .i64)) {l : List Int} (hl : HasL D l) {ss R : List Int} (hs : ss.Perm (intKeys D)) (hR : R.Pairwise (· < ·)) (hm : ∀ x, x ∈ R ↔ x ∈ l) : ss.mergeSort leI = R ∧ ss.length = R.length := by
  obtain ⟨es, hD, hpw, _⟩ := h.entries K
  obtain ⟨es', hD', hko⟩ := h.keysOf
  obtain rfl : es = es' := by rw [hD] at hD'; simpa using hD'
  subst hD
  have hnd : R.Nodup := hR.imp (fun h e => by omega)
  have hp : R.Perm (intKeys (.map es)) := perm_intKeys hpw (fun p hp => by obtain ⟨v, hv⟩ := hko p hp; obtain ⟨x, _, hx, _⟩ := Maps.keyOf_i64 hk hv; exact ⟨x, hx⟩) hnd (fun x => by rw [hl.2 x, hm x]; simp)
  have hp2 := hs.trans hp.symm
  refine ⟨?_, hp2.length_eq⟩
  rw [mergeSort_of_perm_i hp2]
  exact List.mergeSort_of_pairwise (hR.imp (fun h => by simp only [leI, decide_eq_true_eq]; omega))
set_option maxHeartbeats 1000000 in
theorem sortsZ (m : Nat) : AnyZI.SortsIn Try.prog Try.sortedA_ren Fence.wide m :=
  ⟨fun blk off cap ss W hH hblk hsz => callsIn_wide.2 (AnyM.slices_Sort_int Try.sortA blk off cap ss W hH hblk hsz),
   fun p cap W => callsIn_wide.2 (AnyM.slices_Sort_int_none Try.sortA p cap W)⟩
set_option maxHeartbeats 1000000 in
/-- slices.Sorted of what maps.Keys hands back. -/
theorem sortedKeys (b nn Bk : Nat) (D0 : DataW Unit) (w : World) (hBk : Bk < w.heap.size) (hm : w.cell? ⟨Bk, 0, none⟩ = some (.map (some b))) (hown : w.ownsMap Try.prog 3 (plainElem Try.prog 4) b nn D0) (hmax : Maps.size D0 ≤ 4096) :
    CallsIn Fence.wide 5 Try.prog 44 #[.func (.func 60) #[] #[.pointer (some ⟨Bk, 0, none⟩)]] w fun e w' => ∃ (v : Value) (ss : List Int), e = .returned v ∧ ss.Perm (intKeys D0) ∧
      w'.ownsRow w.heap.size 3 1 v ss.length ((ss.mergeSort leI).map (Value.int .i64)) ∧ Keeps w w' := by
  have hseq : SeqGives Fence.wide 2 Try.prog 60 #[.pointer (some ⟨Bk, 0, none⟩)] encZ (fun ss => ss.Perm (intKeys D0)) (Maps.size D0) w :=
    AnyZI.keys_gives (ρ := Try.keysA_ren) { Try.keysA with } Fence.wide _ trivial rfl (by omega) Bk b nn D0 _ hBk hm hown
  have cS := AnyZI.sorted_in Try.sortedA Fence.wide 5 trivial trivial trivial trivial rfl (by omega) (sortsZ _) (enters_of Try.func59 (by kernel_rfl) rfl) 60 #[.pointer (some ⟨Bk, 0, none⟩)] trivial (enters_of Try.func60 (by kernel_rfl) rfl) _ _ (by unfold maxLen; omega) (by omega) _ hseq
  refine CallsIn.mono cS ?_
  rintro e w' ⟨v, ss, he, hS, hrow, hnil, hb⟩
  exact ⟨v, ss, he, hS, hrow, hb⟩
set_option maxHeartbeats 1000000 in
theorem keysZ (mb : Option Nat) (W : World) : CallsIn Fence.wide 5 Try.prog 45 #[.map mb] W fun e w' => e = .returned (.func (.func 60) #[] #[.pointer (some ⟨W.heap.size, 0, none⟩)]) ∧ w' = W.alloc (.cells #[.map mb] 80) :=
  AnyZI.keys_in Try.keysA Fence.wide 5 trivial rfl mb W
end Go.Proofs.Ytngonghgkeobhaa
