/- A range over a function whose iterator keeps cells of its own, over any program: what the iterator owes, what the loop's body owes, and what the loop then does. Nothing is claimed here. Whole rows loaded and stored inside a fence, over any program. Nothing is claimed here. The plain words of what results read as. Nothing is claimed here. -/
import Derived.Test.YtdploccpobpjjaaCa
import Derived.RangeFuncNested
import Derived.RangeFuncBound
import Derived.RangeFuncCalls
import Derived.RangeFuncLeaves
import Derived.Shelf.Abstract
import Derived.OwnWalkIn
import Derived.Deep.AppendLies
namespace Go.Proofs.Ytdploccpobpjjaa
section
open Go.RowKit Go.Shelf

/-- All that lay is there; the blocks r of which K r says so are as they were. -/
structure Holds (K : Nat → Prop) (w w' : World) : Prop where
  os : w'.os = w.os
  tape : w'.tape = w.tape
  output : w'.output = w.output
  size : w.heap.size ≤ w'.heap.size
  block : ∀ r, r < w.heap.size → K r → w'.heap[r]? = w.heap[r]?
theorem Holds.refl (K : Nat → Prop) (w : World) : Holds K w w := ⟨rfl, rfl, rfl, Nat.le_refl _, fun _ _ _ => rfl⟩
theorem Holds.trans {K : Nat → Prop} {a b c : World} (h : Holds K a b) (k : Holds K b c) : Holds K a c :=
  ⟨k.os.trans h.os, k.tape.trans h.tape, k.output.trans h.output, Nat.le_trans h.size k.size, fun r hr hk => (k.block r (Nat.lt_of_lt_of_le hr h.size) hk).trans (h.block r hr hk)⟩
theorem Holds.mono {K K' : Nat → Prop} {a b : World} (h : Holds K a b) (hk : ∀ r, r < a.heap.size → K' r → K r) : Holds K' a b :=
  ⟨h.os, h.tape, h.output, h.size, fun r hr h' => h.block r hr (hk r hr h')⟩
theorem Holds.alloc {K : Nat → Prop} {a w : World} (h : Holds K a w) (o : Obj) : Holds K a (w.alloc o) :=
  h.trans ⟨rfl, rfl, rfl, by simp, fun r hr _ => Below.heap_alloc w o r hr⟩
theorem Holds.put {K : Nat → Prop} {a w : World} (h : Holds K a w) (r : Nat) (hr : ¬ K r) (o : Obj) : Holds K a (w.putObj r o) :=
  h.trans ⟨rfl, rfl, rfl, by simp, fun k _ hk => World.putObj_heap_other (fun e => hr (e ▸ hk))⟩
theorem Holds.set {K : Nat → Prop} {a w : World} (h : Holds K a w) (p : Addr) (hp : ¬ K p.block) (u : Value) : Holds K a (w.setCell p u) :=
  h.trans ⟨rfl, rfl, rfl, by simp [World.setCell], fun k _ hk => heap_setCell_other w p k u (fun e => hp (e ▸ hk))⟩
theorem Holds.drewN {K : Nat → Prop} {a w : World} (h : Holds K a w) (n : Nat) : Holds K a (w.drewN n) := ⟨h.os, h.tape, h.output, h.size, h.block⟩
theorem Holds.drew {K : Nat → Prop} {a w : World} (h : Holds K a w) : Holds K a w.drew := ⟨h.os, h.tape, h.output, h.size, h.block⟩
theorem Holds.of_keeps {w w' : World} (h : Keeps w w') (K : Nat → Prop) : Holds K w w' := ⟨h.os, h.tape, h.output, h.size, fun r hr _ => h.block r hr⟩
theorem Holds.next {K : Nat → Prop} {a w w' : World} (h : Holds K a w) (k : Keeps w w') : Holds K a w' := h.trans (Holds.of_keeps k K)
theorem Holds.of_below {B : Nat} {w w' : World} (h : Below B w w') : Holds (fun r => r < B) w w' := ⟨h.os, h.tape, h.output, h.size, fun r _ hk => h.block r hk⟩
theorem Holds.grown {K : Nat → Prop} {a w w' : World} {row : Option Nat} (h : Holds K a w) (hg : w.grownBy w' row) (hr : ∀ r, row = some r → ¬ K r) : Holds K a w' :=
  h.trans ⟨hg.os, hg.tape, hg.output, hg.size, fun k hk hK => hg.block k hk (fun e => hr k e.symm hK)⟩
theorem Holds.below {B : Nat} {w w' : World} (h : Holds (fun r => r < B) w w') (hB : B ≤ w.heap.size) : Below B w w' :=
  ⟨h.os, h.tape, h.output, h.size, fun k hk => h.block k (by omega) hk⟩
theorem Holds.trans2 {K K' : Nat → Prop} {a b c : World} (h : Holds K a b) (k : Holds K' b c) (hk : ∀ r, r < a.heap.size → K r → K' r) : Holds K a c :=
  ⟨k.os.trans h.os, k.tape.trans h.tape, k.output.trans h.output, Nat.le_trans h.size k.size, fun r hr hK => (k.block r (Nat.lt_of_lt_of_le hr h.size) (hk r hr hK)).trans (h.block r hr hK)⟩
theorem At.new' (w : World) (b : Nat) (h : b = w.heap.size) (t : TypeId) (cs : Array Value) : At (w.alloc (.cells cs t)) b t cs := by subst h; exact At.new w t cs
theorem At.holds {K : Nat → Prop} {w w' : World} {g : Nat} {t : TypeId} {cs : Array Value} (h : At w g t cs) (hh : Holds K w w') (hk : K g) : At w' g t cs := (hh.block g h.lt hk).trans h

/-- What is said of the blocks below B, and of those of which M says so, alone. -/
def Stable (B : Nat) (J : (Nat → Prop) → World → Prop) : Prop := ∀ M W W', J M W → Holds (fun r => r < B ∨ M r) W W' → J M W'
/-- How a round ends: the body's blocks beyond B are M', old ones or new; all else beyond B, and what K names, is as it was; the loop goes on (J), or it is to stop (Jx). -/
def RoundOk (B : Nat) (K : Nat → Prop) (J Jx : Nat → (Nat → Prop) → World → Prop) (k : Nat) (M : Nat → Prop) (W1 : World) (e : Ending) (W' : World) : Prop :=
  ∃ M' : Nat → Prop, (∀ r, M' r → r < W'.heap.size) ∧ (∀ r, M' r → M r ∨ W1.heap.size ≤ r) ∧ Holds (fun r => K r ∨ (B ≤ r ∧ ¬ M r)) W1 W' ∧
    ((e = .returned (.bool true) ∧ J (k + 1) M' W') ∨ (e = .returned (.bool false) ∧ Jx (k + 1) M' W'))
/-- An iterator that hands over xs, one after the other; what it has captured K names; it may write its own blocks, all beyond the heap as it is called. -/
def Iter {α : Type} (P : Program) (gf : Nat) (lb : Array Value) (encs : Nat → α → Array Value) (D : Nat → α → World → Prop) (K : Nat → Prop) (xs : List α) (w0 : World) : Prop :=
  ∀ (n l : Nat) (J Jx : Nat → (Nat → Prop) → World → Prop) (W : World), Holds K w0 W → w0.heap.size ≤ W.heap.size → (∀ k, Stable W.heap.size (J k)) → (∀ k, Stable W.heap.size (Jx k)) →
    (∀ k x M W1, xs[k]? = some x → J k M W1 → (∀ r, M r → W.heap.size ≤ r ∧ r < W1.heap.size) → Holds K W W1 → D W.heap.size x W1 →
      YieldAt Fence.wide n P l (encs W.heap.size x) W1 (RoundOk W.heap.size K J Jx k M W1)) →
    J 0 (fun _ => False) W →
    Calls P gf (#[.func (.yield l) #[] #[]] ++ lb) W fun e W' => (∃ v, e = .returned v) ∧ ∃ M : Nat → Prop, (∀ r, M r → W.heap.size ≤ r ∧ r < W'.heap.size) ∧ (J xs.length M W' ∨ ∃ k, Jx k M W')

/-- How the body of a round may be left. -/
def bodyOk (S : Nat) (K : Nat → Prop) (I Ix : Nat → (Nat → Prop) → World → Prop) (k : Nat) (M : Nat → Prop) (W : World) : Exit → Act → World → Prop
  | .normal, _, W' => ∃ M' : Nat → Prop, (∀ r, M' r → r < W'.heap.size) ∧ (∀ r, M' r → M r ∨ W.heap.size ≤ r) ∧ Holds (fun r => K r ∨ (S ≤ r ∧ ¬ M r)) W W' ∧ I (k + 1) M' W'
  | .ret, _, W' => ∃ M' : Nat → Prop, (∀ r, M' r → r < W'.heap.size) ∧ (∀ r, M' r → M r ∨ W.heap.size ≤ r) ∧ Holds (fun r => K r ∨ (S ≤ r ∧ ¬ M r)) W W' ∧ Ix (k + 1) M' W'
  | _, _, _ => False

variable {P : Program} {n : Nat}
theorem range_mine {α : Type} (xs : List α) {g : Operand} {ps : Array Tmp} {assign body : Code} {Q : Exit → Act → World → Prop} {a : Act} {w : World}
    {gf : Nat} {lb : Array Value} (hg : a.eval g = .func (.func gf) #[] lb) (eg : ∀ args w, (callFunc gf args).run P w = .ok (.enter gf args) w)
    {encs : Nat → α → Array Value} {D : Nat → α → World → Prop} {K : Nat → Prop} (hseq : Iter P gf lb encs D K xs w) (hps : ∀ B x, (encs B x).size = ps.size)
    (hK : ∀ r, K r → r < w.heap.size) (hD : ∀ B x W W', Holds (fun r => B ≤ r) W W' → D B x W → D B x W')
    (I Ix : Nat → (Nat → Prop) → World → Prop) (hI : ∀ k, Stable w.heap.size (I k)) (hIx : ∀ k, Stable w.heap.size (Ix k)) (h0 : I 0 (fun _ => False) w)
    (Ax : α → Act → World → Prop) (hAx : ∀ x a W W', Holds (fun r => r ≠ w.heap.size + 1) W W' → Ax x a W → Ax x a W')
    (hassign : ∀ (l k : Nat) (x : α) (M : Nat → Prop) (W : World), xs[k]? = some x → I k M W → D (w.heap.size + 2) x W → w.heap.size + 2 ≤ W.heap.size →
      assign.wpIn (Fence.wide.inRound l) n P (Exit.then (fun a' W' => Holds (fun _ => True) W W' ∧ Ax x a' W') (fun _ _ _ => False)) { tmps := (ps.zip (encs (w.heap.size + 2) x)).foldl (fun t (p, v) => t.setIfInBounds p v) a.tmps, defers := [] } W)
    (hbody : ∀ (l k : Nat) (x : α) (M : Nat → Prop) (a' : Act) (W : World), xs[k]? = some x → I k M W → (∀ r, M r → w.heap.size + 2 ≤ r ∧ r < W.heap.size) → Holds K w W → D (w.heap.size + 2) x W → Ax x a' W → w.heap.size + 2 ≤ W.heap.size →
      body.wpIn (Fence.wide.inRound l) n P (bodyOk w.heap.size K I Ix k M W) a' W)
    (hdone : ∀ (M : Nat → Prop) (W : World), I xs.length M W → W.heap[w.heap.size]? = some (.deferred (some [])) → (∀ r, M r → w.heap.size + 2 ≤ r ∧ r < W.heap.size) → Q .normal { a with defers := { target := .collected w.heap.size, args := #[] } :: a.defers } W)
    (hstop : ∀ (k : Nat) (M : Nat → Prop) (W : World), Ix k M W → W.heap[w.heap.size]? = some (.deferred (some [])) → (∀ r, M r → w.heap.size + 2 ≤ r ∧ r < W.heap.size) → Code.ret.wpIn Fence.wide n P Q { a with defers := { target := .collected w.heap.size, args := #[] } :: a.defers } W) :
    (Code.rangeFunc g ps assign body).wpIn Fence.wide n P Q a w := by
  refine wpIn_rangeFunc ?_
  intro fn hfn
  obtain ⟨rec, hrec⟩ : ∃ rec : LoopState → Option Code → Loop, rec = fun st pe => { state := st, pending := pe, fn, tmps := a.tmps, params := ps, assign, body, defers := w.heap.size } := ⟨_, rfl⟩
  obtain ⟨W1, hW1⟩ : ∃ W1, (w.alloc (.deferred (some []))).alloc (.loop (rec .ready none)) = W1 := ⟨_, rfl⟩
  have hL1 : W1.heap[w.heap.size + 1]? = some (.loop (rec .ready none)) := by rw [← hW1]; exact heap_alloc2_new w _ _
  have hK1 : W1.heap[w.heap.size]? = some (.deferred (some [])) := by rw [← hW1]; exact heap_alloc2_old w _ _
  have hall : Holds (fun _ => True) w W1 := by rw [← hW1]; exact ((Holds.refl _ w).alloc _).alloc _
  have hsz : W1.heap.size = w.heap.size + 2 := by rw [← hW1]; simp
  have hI1 : I 0 (fun _ => False) W1 := hI 0 _ _ _ h0 (hall.mono (fun _ _ _ => trivial))
  refine ⟨w.heap.size + 1, [{ target := .collected w.heap.size, args := #[] }], W1, { target := .fn (.func gf) lb, args := #[.func (.yield (w.heap.size + 1)) #[] #[]] }, W1, gf,
    #[.func (.yield (w.heap.size + 1)) #[] #[]] ++ lb, W1, ?_, ?_, fun _ _ => trivial, ?_, fun h => by simp [Fence.wide] at h, ?_⟩
  · rw [← hW1, hrec]; exact run_enterLoop_outer _ _ _ _ _
  · simp only [resolve, hg]
    simp [go_sem]
  · simp [invoke, go_sem, eg]
  · refine callsIn_wide.2 ?_
    refine (hseq n (w.heap.size + 1)
      (fun k M W => I k M W ∧ W.heap[w.heap.size + 1]? = some (.loop (rec .ready none)) ∧ W.heap[w.heap.size]? = some (.deferred (some [])))
      (fun k M W => Ix k M W ∧ W.heap[w.heap.size + 1]? = some (.loop (rec .done (some .ret))) ∧ W.heap[w.heap.size]? = some (.deferred (some [])))
      W1 (hall.mono (fun _ _ _ => trivial)) hall.size ?_ ?_ ?_ ⟨hI1, hL1, hK1⟩).mono ?_
    · rintro k M W W' ⟨h1, h2, h3⟩ hh
      rw [hsz] at hh
      exact ⟨hI k M W W' h1 (hh.mono (fun r _ h => h.imp (fun h => by omega) id)), (hh.block _ (Array.getElem?_eq_some_iff.1 h2).1 (.inl (by omega))).trans h2, (hh.block _ (Array.getElem?_eq_some_iff.1 h3).1 (.inl (by omega))).trans h3⟩
    · rintro k M W W' ⟨h1, h2, h3⟩ hh
      rw [hsz] at hh
      exact ⟨hIx k M W W' h1 (hh.mono (fun r _ h => h.imp (fun h => by omega) id)), (hh.block _ (Array.getElem?_eq_some_iff.1 h2).1 (.inl (by omega))).trans h2, (hh.block _ (Array.getElem?_eq_some_iff.1 h3).1 (.inl (by omega))).trans h3⟩
    · rintro k x M W hx ⟨hi, hl, hk⟩ hM hKW hDx
      rw [hsz] at hDx hM
      have hlt : w.heap.size + 1 < W.heap.size := (Array.getElem?_eq_some_iff.1 hl).1
      have hM1 : ¬ M (w.heap.size + 1) := fun h => by have := (hM _ h).1; omega
      have hK1' : ¬ K (w.heap.size + 1) := fun h => by have := hK _ h; omega
      have hy := run_yield (P := P) (args := encs W1.heap.size x) hl (by rw [hrec]; exact hps _ x)
      rw [hrec, hsz] at hy
      rw [hsz]
      refine ⟨fn, _, assign, body, hy, roundIn_of_wpIn hfn (wpIn_mono (hassign (w.heap.size + 1) k x M W hx hi hDx (by omega)) ?_)⟩
      rintro e a1 Wa h
      cases e with
      | normal =>
        obtain ⟨hh1, hax⟩ := h
        have hla : Wa.heap[w.heap.size + 1]? = some (.loop (rec .ready none)) := (hh1.block _ hlt trivial).trans hl
        have hka : Wa.heap[w.heap.size]? = some (.deferred (some [])) := (hh1.block _ (by omega) trivial).trans hk
        have hlta := hh1.size
        refine ⟨_, run_beginRound hla (by rw [hrec]), ?_⟩
        obtain ⟨W2, hW2⟩ : ∃ W2, Wa.putObj (w.heap.size + 1) (.loop { rec .ready none with state := .busy }) = W2 := ⟨_, rfl⟩
        have hl2 : W2.heap[w.heap.size + 1]? = some (.loop { rec .ready none with state := .busy }) := by rw [← hW2]; exact World.putObj_heap_same (by omega)
        have hk2 : W2.heap[w.heap.size]? = some (.deferred (some [])) := by rw [← hW2]; exact (World.putObj_heap_other (by omega)).trans hka
        have hsz2 : W2.heap.size = Wa.heap.size := by rw [← hW2]; simp
        have ha2 : ∀ Kx : Nat → Prop, ¬ Kx (w.heap.size + 1) → Holds Kx Wa W2 := fun Kx h => by rw [← hW2]; exact (Holds.refl _ _).put _ h _
        have hw2 : ∀ Kx : Nat → Prop, ¬ Kx (w.heap.size + 1) → Holds Kx W W2 := fun Kx h => (hh1.mono (fun _ _ _ => trivial)).trans (ha2 Kx h)
        rw [hW2]
        refine wpIn_mono (hbody (w.heap.size + 1) k x M a1 W2 hx (hI _ _ _ _ hi (hw2 _ (fun h => h.elim (fun h => by omega) (fun h => hM1 h))))
          (fun r hr => ⟨(hM r hr).1, by have := (hM r hr).2; omega⟩) (((hall.mono (fun _ _ _ => trivial)).trans hKW).trans (hw2 _ hK1')) (hD _ _ _ _ (hw2 _ (by omega)) hDx) (hAx _ _ _ _ (ha2 _ (by simp)) hax) (by omega)) ?_
        rintro e a3 W3 hp
        cases e with
        | normal =>
          obtain ⟨M', h1, h2, hh, hi'⟩ := hp
          have hl3 := (hh.block _ (by omega) (.inr ⟨by omega, hM1⟩)).trans hl2
          have hk3 := (hh.block _ (by omega) (.inr ⟨by omega, fun h => by have := (hM _ h).1; omega⟩)).trans hk2
          have hs3 := hh.size
          have hr := run_endRound (P := P) none hl3
          have hM' : ¬ M' (w.heap.size + 1) := fun h => (h2 _ h).elim (fun h => hM1 h) (fun h => by omega)
          refine ⟨_, _, hr, M', fun r hr => by simpa using h1 r hr, fun r hr => (h2 r hr).imp id (fun h => by omega), ?_, .inl ⟨rfl, hI _ _ _ _ hi' ((Holds.refl _ _).put _ (fun h => h.elim (fun h => by omega) (fun h => hM' h)) _), ?_, ?_⟩⟩
          · exact ((hw2 _ (fun h => h.elim (fun h => hK1' h) (fun h => by omega))).trans (hh.mono (fun r _ h => h.imp id (fun h => ⟨by omega, h.2⟩)))).put _ (fun h => h.elim (fun h => hK1' h) (fun h => by omega)) _
          · rw [hrec] at *; exact World.putObj_heap_same (by omega)
          · exact (World.putObj_heap_other (by omega)).trans hk3
        | ret =>
          obtain ⟨M', h1, h2, hh, hi'⟩ := hp
          have hl3 := (hh.block _ (by omega) (.inr ⟨by omega, hM1⟩)).trans hl2
          have hk3 := (hh.block _ (by omega) (.inr ⟨by omega, fun h => by have := (hM _ h).1; omega⟩)).trans hk2
          have hs3 := hh.size
          have hr := run_endRound (P := P) (some .ret) hl3
          have hM' : ¬ M' (w.heap.size + 1) := fun h => (h2 _ h).elim (fun h => hM1 h) (fun h => by omega)
          refine ⟨_, _, hr, M', fun r hr => by simpa using h1 r hr, fun r hr => (h2 r hr).imp id (fun h => by omega), ?_, .inr ⟨rfl, hIx _ _ _ _ hi' ((Holds.refl _ _).put _ (fun h => h.elim (fun h => by omega) (fun h => hM' h)) _), ?_, ?_⟩⟩
          · exact ((hw2 _ (fun h => h.elim (fun h => hK1' h) (fun h => by omega))).trans (hh.mono (fun r _ h => h.imp id (fun h => ⟨by omega, h.2⟩)))).put _ (fun h => h.elim (fun h => hK1' h) (fun h => by omega)) _
          · rw [hrec] at *; exact World.putObj_heap_same (by omega)
          · exact (World.putObj_heap_other (by omega)).trans hk3
        | exit id => exact hp.elim
        | goto t => exact hp.elim
        | panic ch => exact hp.elim
        | outgrown => exact hp.elim
      | ret => exact h.elim
      | exit id => exact h.elim
      | goto t => exact h.elim
      | panic ch => exact h.elim
      | outgrown => exact h.elim
    · rintro e W2 ⟨⟨v, rfl⟩, M, hM, (⟨hi, hl, hk⟩ | ⟨k, hi, hl, hk⟩)⟩
      · refine ⟨none, _, by have := run_endLoop (P := P) hl (by rw [hrec]; simp); rw [hrec] at this; exact this, hdone M _ (hI _ _ _ _ hi ?_) ?_ ?_⟩
        · exact (Holds.refl _ _).put _ (fun h => h.elim (fun h => by omega) (fun h => by have := (hM _ h).1; omega)) _
        · exact (World.putObj_heap_other (by omega)).trans hk
        · intro r hr; exact ⟨by have := (hM r hr).1; omega, by simpa using (hM r hr).2⟩
      · refine ⟨some .ret, _, by have := run_endLoop (P := P) hl (by rw [hrec]; simp); rw [hrec] at this; exact this, hstop k M _ (hIx _ _ _ _ hi ?_) ?_ ?_⟩
        · exact (Holds.refl _ _).put _ (fun h => h.elim (fun h => by omega) (fun h => by have := (hM _ h).1; omega)) _
        · exact (World.putObj_heap_other (by omega)).trans hk
        · intro r hr; exact ⟨by have := (hM r hr).1; omega, by simpa using (hM r hr).2⟩
end
section
open Go.RowKit
section
variable {F : Fence} {n : Nat} {P : Program}
theorem in_load_row' {ops : Array Oper} {rest : List Oper} {o : Oper} {a : Act} {w : World} {Q : Exit → Act → World → Prop} (hw : Region.wanted o (yielded ops a.tmps) = true) (ty : TypeId) (x : Operand) (ho : o.op = .load ty x)
    (g : Nat) (hx : a.eval x = .pointer (some ⟨g, 0, none⟩)) (t : TypeId) (cs : Array Value) (d : TypeDesc) (hg : At w g t cs)
    (hu : P.underlying ty = some d) (hd : (match d with | .struct _ | .array _ _ => true | _ => false) = true) (hi : (P.info? ty).map (·.size) = some cs.size)
    (h : wpListIn F n P ops Q rest (a.put o.dst (.agg cs)) w) : wpListIn F n P ops Q (o :: rest) a w := by
  refine wpListIn_step fun K hK' => ?_
  rw [hw, if_pos rfl]
  unfold Oper.wpIn
  refine ⟨?_, ?_⟩
  · simp [Oper.about, ho]
  · rw [Oper.semAt_plain F _ _ (by rw [ho]; intro c hc'; cases hc')]
    simp only [execOp, ho, hx, Instr.loadAt, Instr.sureAddr, Sem.run_bind, Sem.run_pure, Result.andThen_ok, run_loadVar_row w g t ty cs (0, 0) d hg hu hd hi]
    exact hK' _ _ h
theorem in_load_row {ops : Array Oper} {rest : List Oper} {o : Oper} {a : Act} {w : World} {Q : Exit → Act → World → Prop} (hgd : o.guard = none) (ty : TypeId) (x : Operand) (ho : o.op = .load ty x)
    (g : Nat) (hx : a.eval x = .pointer (some ⟨g, 0, none⟩)) (t : TypeId) (cs : Array Value) (d : TypeDesc) (hg : At w g t cs)
    (hu : P.underlying ty = some d) (hd : (match d with | .struct _ | .array _ _ => true | _ => false) = true) (hi : (P.info? ty).map (·.size) = some cs.size)
    (h : wpListIn F n P ops Q rest (a.put o.dst (.agg cs)) w) : wpListIn F n P ops Q (o :: rest) a w :=
  in_load_row' (by simp [Region.wanted, hgd]) ty x ho g hx t cs d hg hu hd hi h
theorem in_store_row {ops : Array Oper} {rest : List Oper} {o : Oper} {a : Act} {w : World} {Q : Exit → Act → World → Prop} (hgd : o.guard = none) (ty : TypeId) (x y : Operand) (ho : o.op = .store ty x y)
    (g : Nat) (cells : Array Value) (hx : a.eval x = .pointer (some ⟨g, 0, none⟩)) (hy : a.eval y = .agg cells)
    (t : TypeId) (old : Array Value) (hg : At w g t old) (hi : (P.info? ty).map (·.size) = some cells.size)
    (hold : old.size = cells.size) (h1 : cells.all (·.oneCell') = true)
    (h : wpListIn F n P ops Q rest (a.put o.dst undef) (w.setRow g cells)) : wpListIn F n P ops Q (o :: rest) a w := by
  refine wpListIn_plain hgd fun K hK' => ?_
  unfold Oper.wpIn
  refine ⟨?_, ?_⟩
  · simp [Oper.about, ho]
  · rw [Oper.semAt_plain F _ _ (by rw [ho]; intro c hc'; cases hc')]
    simp only [execOp, ho, hx, hy, Instr.storeAt, Instr.sureAddr, Sem.run_bind, Sem.run_pure, Result.andThen_ok, run_storeVar_row w g t ty old cells hg hi hold h1]
    exact hK' _ _ h
/-- Steps of a region that draws its order, inside a fence. -/
theorem si_load_row {ops : Array Oper} {o : Oper} {a : Act} {w : World} {K : Act → World → Prop} {Q : Exit → Act → World → Prop} {E : Prop} (hgd : o.guard = none) (ty : TypeId) (x : Operand) (ho : o.op = .load ty x)
    (g : Nat) (hx : a.eval x = .pointer (some ⟨g, 0, none⟩)) (t : TypeId) (cs : Array Value) (d : TypeDesc) (hg : At w g t cs)
    (hu : P.underlying ty = some d) (hd : (match d with | .struct _ | .array _ _ => true | _ => false) = true) (hi : (P.info? ty).map (·.size) = some cs.size)
    (h : K (a.put o.dst (.agg cs)) w) : if Region.wanted o (yielded ops a.tmps) = true then Oper.wpIn F n P o a w K Q else E := by
  have hw : Region.wanted o (yielded ops a.tmps) = true := by simp [Region.wanted, hgd]
  rw [if_pos hw]
  unfold Oper.wpIn
  refine ⟨?_, ?_⟩
  · simp [Oper.about, ho]
  · rw [Oper.semAt_plain F _ _ (by rw [ho]; intro c hc'; cases hc')]
    simp only [execOp, ho, hx, Instr.loadAt, Instr.sureAddr, Sem.run_bind, Sem.run_pure, Result.andThen_ok, run_loadVar_row w g t ty cs (0, 0) d hg hu hd hi]
    exact h
theorem si_append_lies {ops : Array Oper} {o : Oper} {a : Act} {w : World} {K : Act → World → Prop} {Q : Exit → Act → World → Prop} {E : Prop} (hgd : o.guard = none) (s x : Operand) (t : TypeId)
    (hop : o.op = Op.call { callee := Callee.builtin Builtin.append, args := #[s, x], argTypes := #[t, t] })
    (base : Nat) (e : TypeId) (i : TypeInfo) (z : Value) (size bytes : Nat) (h1 : P.underlying t = some (.slice e)) (h2 : P.info? e = some i) (h3 : i.zero = some z) (h4 : i.size = size) (h5 : i.bytes = bytes) (h6 : z.cells.size = size) (h7 : 0 < size)
    (v : Value) (k : Nat) (xs : List Value) (hs : a.eval s = v) (hown : w.ownsRow base e size v k xs) (ad : Addr) (m c : Nat) (news : List Value) (hx : a.eval x = .slice (some ad) m c) (hn : news.length = m * size)
    (hc : ∀ j u, news[j]? = some u → w.cell? (ad.add j) = some u) (h1c : ∀ u ∈ news, u.oneCell' = true) (hm : 0 < m) (b1 : k + m ≤ maxLen) (b2 : (k + m) * bytes ≤ 140737488355328) (b3 : base ≤ w.heap.size)
    (hK : ∀ g cap w', w'.ownsRow base e size (.slice (some ⟨g, 0, none⟩) (k + m) cap) (k + m) (xs ++ news) → w.grownBy w' v.ownBlock → (v.ownBlock = some g ∨ g = w.heap.size) → g < w'.heap.size → K (a.put o.dst (.slice (some ⟨g, 0, none⟩) (k + m) cap)) w') :
    if Region.wanted o (yielded ops a.tmps) = true then Oper.wpIn F n P o a w K Q else E := by
  have hw : Region.wanted o (yielded ops a.tmps) = true := by simp [Region.wanted, hgd]
  rw [if_pos hw]
  obtain ⟨g, cap, w', hrun, r1, r2, r3, r4⟩ := run_append_lies (P := P) w t o.type base e i z size bytes h1 h2 h3 h4 h5 h6 h7 v k xs hown ad m c news hn hc h1c hm b1 b2 b3 _ rfl
  unfold Oper.wpIn
  refine ⟨?_, ?_⟩
  · simp [Oper.about, hop, resolve, Target.leads, Sem.run_pure]
  · rw [Oper.semAt_plain F _ _ (by rw [hop]; intro c hc'; cases hc')]
    simp [execOp, hop, resolve, invoke, builtin, hs, hx, hrun, Result.andThen]
    exact hK _ _ _ r1 r2 r3 r4
end
end
section
open Go.RowKit
/-- As Rd; all cells lie in blocks of Q. -/
def RdB (Q : Nat → Prop) (w : World) (v : Value) (n : Nat) (P : Nat → Value → Prop) : Prop :=
  ∃ A c, v = .slice A n c ∧ n ≤ maxLen ∧ ∀ k, k < n → ∃ b off u, A = some ⟨b, off, none⟩ ∧ Q b ∧ w.cell? ⟨b, off + k, none⟩ = some u ∧ P k u
def RdIB (Q : Nat → Prop) (w : World) (v : Value) (l : List Int) : Prop := RdB Q w v l.length fun k u => u = .int .i64 (nth l k)
def RdTB (Q : Nat → Prop) (w : World) (v : Value) (t : List (List Int)) : Prop := RdB Q w v t.length fun k u => ∃ l, t[k]? = some l ∧ RdIB Q w u l
def RdSB (Q : Nat → Prop) (w : World) (v : Value) (l : List ByteArray) : Prop := RdB Q w v l.length fun k u => ∃ s, l[k]? = some s ∧ u = .string s
theorem RdB.rd {Q : Nat → Prop} {w : World} {v : Value} {n : Nat} {P P' : Nat → Value → Prop} (h : RdB Q w v n P) (hp : ∀ k u, P k u → P' k u) : Rd w v n P' := by
  obtain ⟨A, c, rfl, hm, hc⟩ := h
  refine ⟨A, c, rfl, hm, fun k hk => ?_⟩
  obtain ⟨b, off, u, h1, _, h3, h4⟩ := hc k hk
  exact ⟨b, off, u, h1, h3, hp k u h4⟩
theorem RdIB.rd {Q : Nat → Prop} {w : World} {v : Value} {l : List Int} (h : RdIB Q w v l) : RdI w v l := RdB.rd h fun _ _ h => h
theorem RdTB.rd {Q : Nat → Prop} {w : World} {v : Value} {t : List (List Int)} (h : RdTB Q w v t) : RdT w v t := RdB.rd h fun _ _ ⟨l, h1, h2⟩ => ⟨l, h1, h2.rd⟩
theorem RdSB.rd {Q : Nat → Prop} {w : World} {v : Value} {l : List ByteArray} (h : RdSB Q w v l) : RdS w v l := RdB.rd h fun _ _ h => h
theorem RdB.to {Q Q' : Nat → Prop} {w w' : World} {v : Value} {n : Nat} {P P' : Nat → Value → Prop} {K : Nat → Prop} (h : RdB Q w v n P) (hh : Holds K w w') (hq : ∀ b, b < w.heap.size → Q b → K b ∧ Q' b) (hp : ∀ k u, P k u → P' k u) : RdB Q' w' v n P' := by
  obtain ⟨A, c, rfl, hm, hc⟩ := h
  refine ⟨A, c, rfl, hm, fun k hk => ?_⟩
  obtain ⟨b, off, u, h1, h2, h3, h4⟩ := hc k hk
  have hlt : b < w.heap.size := block_lt_of_cell h3
  exact ⟨b, off, u, h1, (hq b hlt h2).2, (World.cell?_of_block (hh.block b hlt (hq b hlt h2).1)).trans h3, hp k u h4⟩
theorem RdIB.to {Q Q' : Nat → Prop} {w w' : World} {v : Value} {l : List Int} {K : Nat → Prop} (h : RdIB Q w v l) (hh : Holds K w w') (hq : ∀ b, b < w.heap.size → Q b → K b ∧ Q' b) : RdIB Q' w' v l := RdB.to h hh hq fun _ _ h => h
theorem RdTB.to {Q Q' : Nat → Prop} {w w' : World} {v : Value} {t : List (List Int)} {K : Nat → Prop} (h : RdTB Q w v t) (hh : Holds K w w') (hq : ∀ b, b < w.heap.size → Q b → K b ∧ Q' b) : RdTB Q' w' v t :=
  RdB.to h hh hq fun _ _ ⟨l, h1, h2⟩ => ⟨l, h1, h2.to hh hq⟩
theorem RdSB.to {Q Q' : Nat → Prop} {w w' : World} {v : Value} {l : List ByteArray} {K : Nat → Prop} (h : RdSB Q w v l) (hh : Holds K w w') (hq : ∀ b, b < w.heap.size → Q b → K b ∧ Q' b) : RdSB Q' w' v l := RdB.to h hh hq fun _ _ h => h
/-- What a slice owns reads as it. -/
theorem own_ints {w : World} {base : Nat} {e : TypeId} {v : Value} {l : List Int} (h : w.ownsRow base e 1 v l.length (l.map (Value.int .i64))) (hm : l.length ≤ maxLen) : RdIB (fun r => base ≤ r) w v l := by
  rcases Nat.eq_zero_or_pos l.length with h0 | h0
  · rcases h.2 with ⟨rfl, _⟩ | ⟨g, cap, cur, rfl, _⟩
    · exact ⟨none, 0, by rw [h0], hm, fun k hk => by omega⟩
    · exact ⟨_, cap, rfl, hm, fun k hk => by omega⟩
  · obtain ⟨g, cap, rfl, hb, _, _, _, hc⟩ := own_form h h0
    exact ⟨_, cap, rfl, hm, fun k hk => ⟨g, 0, .int .i64 (nth l k), rfl, hb, by rw [Nat.zero_add]; exact hc k _ (by simp [nth, List.getElem?_eq_getElem hk]), rfl⟩⟩
/-- The columns of a winding. -/
def colW (W : List Int) (d gi : Nat) : List Int := (List.range d).map fun j => nth W (2 + 10 * gi + j)
def colsW (W : List Int) (g d : Nat) : List (List Int) := (List.range g).map (colW W d)
theorem colW_length (W : List Int) (d gi : Nat) : (colW W d gi).length = d := by simp [colW]
theorem colW_at (W : List Int) (d gi j : Nat) (h : j < d) : (colW W d gi)[j]? = some (nth W (2 + 10 * gi + j)) := by simp [colW, h]
theorem colsW_at (W : List Int) (g d gi : Nat) (h : gi < g) : (colsW W g d)[gi]? = some (colW W d gi) := by simp [colsW, h]
theorem colsW_length (W : List Int) (g d : Nat) : (colsW W g d).length = g := by simp [colsW]
theorem fill_row (us : List Value) (n k : Nat) (z u : Value) (hus : us.length = k) (hk : k < n) : ((us ++ List.replicate (n - k) z).toArray).setIfInBounds k u = (us ++ [u] ++ List.replicate (n - (k + 1)) z).toArray := by
  rw [List.setIfInBounds_toArray, List.set_append_right _ _ (by omega), hus, Nat.sub_self, show n - k = (n - (k + 1)) + 1 from by omega, List.replicate_succ, List.set_cons_zero]
  simp
theorem row_at (us : List Value) (n k : Nat) (z : Value) (hus : us.length = k) (hk : k < n) : ((us ++ List.replicate (n - k) z).toArray)[k]? = some z := by
  rw [List.getElem?_toArray, List.getElem?_append_right (by omega), hus, Nat.sub_self, show n - k = (n - (k + 1)) + 1 from by omega, List.replicate_succ]
  rfl
theorem own_holds {w w' : World} {base : Nat} {e : TypeId} {size : Nat} {v : Value} {n : Nat} {xs : List Value} {K : Nat → Prop} (h : w.ownsRow base e size v n xs) (hh : Holds K w w') (hk : ∀ b, v.ownBlock = some b → K b) : w'.ownsRow base e size v n xs := by
  refine ⟨h.1, ?_⟩
  rcases h.2 with hn | ⟨g, cap, cur, rfl, hbg, hg, r⟩
  · exact .inl hn
  · exact .inr ⟨g, cap, cur, rfl, hbg, (hh.block g (Array.getElem?_eq_some_iff.1 hg).1 (hk g rfl)).trans hg, r⟩
theorem own_list {w : World} {base : Nat} {e : TypeId} {v : Value} {n : Nat} {us : List Value} {P : Nat → Value → Prop} (h : w.ownsRow base e 1 v n us) (hm : n ≤ maxLen) (hp : ∀ i u, us[i]? = some u → P i u) : RdB (fun r => base ≤ r) w v n P := by
  rcases Nat.eq_zero_or_pos n with h0 | h0
  · subst h0
    rcases h.2 with ⟨rfl, _⟩ | ⟨g, cap, cur, rfl, _⟩
    · exact ⟨none, 0, rfl, hm, fun k hk => by omega⟩
    · exact ⟨_, cap, rfl, hm, fun k hk => by omega⟩
  · obtain ⟨g, cap, rfl, hb, _, _, _, hc⟩ := own_form h h0
    refine ⟨_, cap, rfl, hm, fun k hk => ?_⟩
    have hk' : k < us.length := by have := h.1; omega
    have hu := List.getElem?_eq_getElem hk'
    exact ⟨g, 0, us[k], rfl, hb, by rw [Nat.zero_add]; exact hc k _ hu, hp k _ hu⟩
/-- A slice of tables. -/
def RdLB (Q : Nat → Prop) (w : World) (v : Value) (ts : List (List (List Int))) : Prop := RdB Q w v ts.length fun k u => ∃ t, ts[k]? = some t ∧ RdTB Q w u t
end
end Go.Proofs.Ytdploccpobpjjaa
