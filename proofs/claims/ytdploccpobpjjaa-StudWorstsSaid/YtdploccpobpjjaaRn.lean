/- A range over a function within a round of another one, over any program: the outer loop and the inner loop. Nothing is claimed here. -/
import Derived.Test.YtdploccpobpjjaaRl
namespace Go.Proofs.Ytdploccpobpjjaa
open Go.RowKit Go.Shelf

variable {P : Program} {n : Nat}
theorem range_out {α : Type} (xs : List α) {g : Operand} {ps : Array Tmp} {assign body : Code} {Q : Exit → Act → World → Prop} {a : Act} {w : World}
    {gf : Nat} {lb : Array Value} (hg : a.eval g = .func (.func gf) #[] lb) (eg : ∀ args w, (callFunc gf args).run P w = .ok (.enter gf args) w)
    {encs : Nat → α → Array Value} {D : Nat → α → World → Prop} {K : Nat → Prop} (hseq : Iter P gf lb encs D K xs w) (hps : ∀ B x, (encs B x).size = ps.size)
    (hK : ∀ r, K r → r < w.heap.size) (hD : ∀ B x W W', Holds (fun r => B ≤ r) W W' → D B x W → D B x W')
    (I Ix : Nat → (Nat → Prop) → World → Prop) (hI : ∀ k, Stable w.heap.size (I k)) (hIx : ∀ k, Stable w.heap.size (Ix k)) (h0 : I 0 (fun _ => False) w)
    (Ax : α → Act → World → Prop) (hAx : ∀ x a W W', Holds (fun r => r ≠ w.heap.size + 1) W W' → Ax x a W → Ax x a W')
    (hassign : ∀ (l k : Nat) (x : α) (M : Nat → Prop) (W : World), xs[k]? = some x → I k M W → D (w.heap.size + 2) x W → w.heap.size + 2 ≤ W.heap.size →
      assign.wpIn (Fence.wide.inRound l) n P (Exit.then (fun a' W' => Holds (fun _ => True) W W' ∧ Ax x a' W') (fun _ _ _ => False)) { tmps := (ps.zip (encs (w.heap.size + 2) x)).foldl (fun t (p, v) => t.setIfInBounds p v) a.tmps, defers := [] } W)
    (hbody : ∀ (l k : Nat) (x : α) (M : Nat → Prop) (a' : Act) (W : World), xs[k]? = some x → I k M W → (∀ r, M r → w.heap.size + 2 ≤ r ∧ r < W.heap.size) → Holds K w W → D (w.heap.size + 2) x W → Ax x a' W → w.heap.size + 2 ≤ W.heap.size → l = w.heap.size + 1 → (∃ r, W.heap[l]? = some (.loop r)) →
      body.wpIn (Fence.wide.inRound l) n P (bodyOk w.heap.size K I Ix k M W) a' W)
    (hdone : ∀ (M : Nat → Prop) (W : World), I xs.length M W → W.heap[w.heap.size]? = some (.deferred (some [])) → (∀ r, M r → w.heap.size + 2 ≤ r ∧ r < W.heap.size) → Q .normal { a with defers := { target := .collected w.heap.size, args := #[] } :: a.defers } W)
    (hstop : ∀ (k : Nat) (M : Nat → Prop) (W : World), Ix k M W → W.heap[w.heap.size]? = some (.deferred (some [])) → (∀ r, M r → w.heap.size + 2 ≤ r ∧ r < W.heap.size) → Code.ret.wpIn Fence.wide n P Q { a with defers := { target := .collected w.heap.size, args := #[] } :: a.defers } W) :
    (Code.rangeFunc g ps assign body).wpIn Fence.wide n P Q a w := by
  refine wpIn_rangeFunc ?_
  intro fn hfn
  obtain ⟨rec, hrec⟩ : ∃ rec : LoopState → Option Code → Loop, rec = fun st pe => { state := st, pending := pe, fn, tmps := a.tmps, params := ps, assign, body, defers := w.heap.size } := ⟨_, rfl⟩
  obtain ⟨W1, hW1⟩ : ∃ W1, (w.alloc (.deferred (some []))).alloc (.loop (rec .ready none)) = W1 := ⟨_, rfl⟩
  have hL1 : W1.heap[w.heap.size + 1]? = some (.loop (rec .ready none)) := by rw [← hW1]; exact heap_alloc2_new w _ _
  have hK1 : W1.heap[w.heap.size]? = some (.deferred (some [])) := by rw [← hW1]; exact heap_alloc2_old w _ _
  have hall : Holds (fun _ => True) w W1 := by rw [← hW1]; exact ((Holds.refl _ w).alloc _).alloc _
  have hsz : W1.heap.size = w.heap.size + 2 := by rw [← hW1]; simp
  have hI1 : I 0 (fun _ => False) W1 := hI 0 _ _ _ h0 (hall.mono (fun _ _ _ => trivial))
  refine ⟨w.heap.size + 1, [{ target := .collected w.heap.size, args := #[] }], W1, { target := .fn (.func gf) lb, args := #[.func (.yield (w.heap.size + 1)) #[] #[]] }, W1, gf,
    #[.func (.yield (w.heap.size + 1)) #[] #[]] ++ lb, W1, ?_, ?_, fun _ _ => trivial, ?_, fun h => by simp [Fence.wide] at h, ?_⟩
  · rw [← hW1, hrec]; exact run_enterLoop_outer _ _ _ _ _
  · simp only [resolve, hg]
    simp [go_sem]
  · simp [invoke, go_sem, eg]
  · refine callsIn_wide.2 ?_
    refine (hseq n (w.heap.size + 1)
      (fun k M W => I k M W ∧ W.heap[w.heap.size + 1]? = some (.loop (rec .ready none)) ∧ W.heap[w.heap.size]? = some (.deferred (some [])))
      (fun k M W => Ix k M W ∧ W.heap[w.heap.size + 1]? = some (.loop (rec .done (some .ret))) ∧ W.heap[w.heap.size]? = some (.deferred (some [])))
      W1 (hall.mono (fun _ _ _ => trivial)) hall.size ?_ ?_ ?_ ⟨hI1, hL1, hK1⟩).mono ?_
    · rintro k M W W' ⟨h1, h2, h3⟩ hh
      rw [hsz] at hh
      exact ⟨hI k M W W' h1 (hh.mono (fun r _ h => h.imp (fun h => by omega) id)), (hh.block _ (Array.getElem?_eq_some_iff.1 h2).1 (.inl (by omega))).trans h2, (hh.block _ (Array.getElem?_eq_some_iff.1 h3).1 (.inl (by omega))).trans h3⟩
    · rintro k M W W' ⟨h1, h2, h3⟩ hh
      rw [hsz] at hh
      exact ⟨hIx k M W W' h1 (hh.mono (fun r _ h => h.imp (fun h => by omega) id)), (hh.block _ (Array.getElem?_eq_some_iff.1 h2).1 (.inl (by omega))).trans h2, (hh.block _ (Array.getElem?_eq_some_iff.1 h3).1 (.inl (by omega))).trans h3⟩
    · rintro k x M W hx ⟨hi, hl, hk⟩ hM hKW hDx
      rw [hsz] at hDx hM
      have hlt : w.heap.size + 1 < W.heap.size := (Array.getElem?_eq_some_iff.1 hl).1
      have hM1 : ¬ M (w.heap.size + 1) := fun h => by have := (hM _ h).1; omega
      have hK1' : ¬ K (w.heap.size + 1) := fun h => by have := hK _ h; omega
      have hy := run_yield (P := P) (args := encs W1.heap.size x) hl (by rw [hrec]; exact hps _ x)
      rw [hrec, hsz] at hy
      rw [hsz]
      refine ⟨fn, _, assign, body, hy, roundIn_of_wpIn hfn (wpIn_mono (hassign (w.heap.size + 1) k x M W hx hi hDx (by omega)) ?_)⟩
      rintro e a1 Wa h
      cases e with
      | normal =>
        obtain ⟨hh1, hax⟩ := h
        have hla : Wa.heap[w.heap.size + 1]? = some (.loop (rec .ready none)) := (hh1.block _ hlt trivial).trans hl
        have hka : Wa.heap[w.heap.size]? = some (.deferred (some [])) := (hh1.block _ (by omega) trivial).trans hk
        have hlta := hh1.size
        refine ⟨_, run_beginRound hla (by rw [hrec]), ?_⟩
        obtain ⟨W2, hW2⟩ : ∃ W2, Wa.putObj (w.heap.size + 1) (.loop { rec .ready none with state := .busy }) = W2 := ⟨_, rfl⟩
        have hl2 : W2.heap[w.heap.size + 1]? = some (.loop { rec .ready none with state := .busy }) := by rw [← hW2]; exact World.putObj_heap_same (by omega)
        have hk2 : W2.heap[w.heap.size]? = some (.deferred (some [])) := by rw [← hW2]; exact (World.putObj_heap_other (by omega)).trans hka
        have hsz2 : W2.heap.size = Wa.heap.size := by rw [← hW2]; simp
        have ha2 : ∀ Kx : Nat → Prop, ¬ Kx (w.heap.size + 1) → Holds Kx Wa W2 := fun Kx h => by rw [← hW2]; exact (Holds.refl _ _).put _ h _
        have hw2 : ∀ Kx : Nat → Prop, ¬ Kx (w.heap.size + 1) → Holds Kx W W2 := fun Kx h => (hh1.mono (fun _ _ _ => trivial)).trans (ha2 Kx h)
        rw [hW2]
        refine wpIn_mono (hbody (w.heap.size + 1) k x M a1 W2 hx (hI _ _ _ _ hi (hw2 _ (fun h => h.elim (fun h => by omega) (fun h => hM1 h))))
          (fun r hr => ⟨(hM r hr).1, by have := (hM r hr).2; omega⟩) (((hall.mono (fun _ _ _ => trivial)).trans hKW).trans (hw2 _ hK1')) (hD _ _ _ _ (hw2 _ (by omega)) hDx) (hAx _ _ _ _ (ha2 _ (by simp)) hax) (by omega) rfl ⟨_, hl2⟩) ?_
        rintro e a3 W3 hp
        cases e with
        | normal =>
          obtain ⟨M', h1, h2, hh, hi'⟩ := hp
          have hl3 := (hh.block _ (by omega) (.inr ⟨by omega, hM1⟩)).trans hl2
          have hk3 := (hh.block _ (by omega) (.inr ⟨by omega, fun h => by have := (hM _ h).1; omega⟩)).trans hk2
          have hs3 := hh.size
          have hr := run_endRound (P := P) none hl3
          have hM' : ¬ M' (w.heap.size + 1) := fun h => (h2 _ h).elim (fun h => hM1 h) (fun h => by omega)
          refine ⟨_, _, hr, M', fun r hr => by simpa using h1 r hr, fun r hr => (h2 r hr).imp id (fun h => by omega), ?_, .inl ⟨rfl, hI _ _ _ _ hi' ((Holds.refl _ _).put _ (fun h => h.elim (fun h => by omega) (fun h => hM' h)) _), ?_, ?_⟩⟩
          · exact ((hw2 _ (fun h => h.elim (fun h => hK1' h) (fun h => by omega))).trans (hh.mono (fun r _ h => h.imp id (fun h => ⟨by omega, h.2⟩)))).put _ (fun h => h.elim (fun h => hK1' h) (fun h => by omega)) _
          · rw [hrec] at *; exact World.putObj_heap_same (by omega)
          · exact (World.putObj_heap_other (by omega)).trans hk3
        | ret =>
          obtain ⟨M', h1, h2, hh, hi'⟩ := hp
          have hl3 := (hh.block _ (by omega) (.inr ⟨by omega, hM1⟩)).trans hl2
          have hk3 := (hh.block _ (by omega) (.inr ⟨by omega, fun h => by have := (hM _ h).1; omega⟩)).trans hk2
          have hs3 := hh.size
          have hr := run_endRound (P := P) (some .ret) hl3
          have hM' : ¬ M' (w.heap.size + 1) := fun h => (h2 _ h).elim (fun h => hM1 h) (fun h => by omega)
          refine ⟨_, _, hr, M', fun r hr => by simpa using h1 r hr, fun r hr => (h2 r hr).imp id (fun h => by omega), ?_, .inr ⟨rfl, hIx _ _ _ _ hi' ((Holds.refl _ _).put _ (fun h => h.elim (fun h => by omega) (fun h => hM' h)) _), ?_, ?_⟩⟩
          · exact ((hw2 _ (fun h => h.elim (fun h => hK1' h) (fun h => by omega))).trans (hh.mono (fun r _ h => h.imp id (fun h => ⟨by omega, h.2⟩)))).put _ (fun h => h.elim (fun h => hK1' h) (fun h => by omega)) _
          · rw [hrec] at *; exact World.putObj_heap_same (by omega)
          · exact (World.putObj_heap_other (by omega)).trans hk3
        | exit id => exact hp.elim
        | goto t => exact hp.elim
        | panic ch => exact hp.elim
        | outgrown => exact hp.elim
      | ret => exact h.elim
      | exit id => exact h.elim
      | goto t => exact h.elim
      | panic ch => exact h.elim
      | outgrown => exact h.elim
    · rintro e W2 ⟨⟨v, rfl⟩, M, hM, (⟨hi, hl, hk⟩ | ⟨k, hi, hl, hk⟩)⟩
      · refine ⟨none, _, by have := run_endLoop (P := P) hl (by rw [hrec]; simp); rw [hrec] at this; exact this, hdone M _ (hI _ _ _ _ hi ?_) ?_ ?_⟩
        · exact (Holds.refl _ _).put _ (fun h => h.elim (fun h => by omega) (fun h => by have := (hM _ h).1; omega)) _
        · exact (World.putObj_heap_other (by omega)).trans hk
        · intro r hr; exact ⟨by have := (hM r hr).1; omega, by simpa using (hM r hr).2⟩
      · refine ⟨some .ret, _, by have := run_endLoop (P := P) hl (by rw [hrec]; simp); rw [hrec] at this; exact this, hstop k M _ (hIx _ _ _ _ hi ?_) ?_ ?_⟩
        · exact (Holds.refl _ _).put _ (fun h => h.elim (fun h => by omega) (fun h => by have := (hM _ h).1; omega)) _
        · exact (World.putObj_heap_other (by omega)).trans hk
        · intro r hr; exact ⟨by have := (hM r hr).1; omega, by simpa using (hM r hr).2⟩
theorem range_in {α : Type} (xs : List α) {g : Operand} {ps : Array Tmp} {assign body : Code} {Q : Exit → Act → World → Prop} {a : Act} {w : World}
    {l₀ : Nat} {r₀ : Loop} (hl₀ : w.heap[l₀]? = some (.loop r₀)) {gf : Nat} {lb : Array Value} (hg : a.eval g = .func (.func gf) #[] lb) (eg : ∀ args w, (callFunc gf args).run P w = .ok (.enter gf args) w)
    {encs : Nat → α → Array Value} {D : Nat → α → World → Prop} {K : Nat → Prop} (hseq : Iter P gf lb encs D K xs w) (hps : ∀ B x, (encs B x).size = ps.size)
    (hK : ∀ r, K r → r < w.heap.size) (hD : ∀ B x W W', Holds (fun r => B ≤ r) W W' → D B x W → D B x W')
    (I Ix : Nat → (Nat → Prop) → World → Prop) (hI : ∀ k, Stable w.heap.size (I k)) (hIx : ∀ k, Stable w.heap.size (Ix k)) (h0 : I 0 (fun _ => False) w)
    (Ax : α → Act → World → Prop) (hAx : ∀ x a W W', Holds (fun r => r ≠ w.heap.size) W W' → Ax x a W → Ax x a W')
    (hassign : ∀ (l k : Nat) (x : α) (M : Nat → Prop) (W : World), xs[k]? = some x → I k M W → D (w.heap.size + 1) x W → w.heap.size + 1 ≤ W.heap.size →
      assign.wpIn (Fence.wide.inRound l) n P (Exit.then (fun a' W' => Holds (fun _ => True) W W' ∧ Ax x a' W') (fun _ _ _ => False)) { tmps := (ps.zip (encs (w.heap.size + 1) x)).foldl (fun t (p, v) => t.setIfInBounds p v) a.tmps, defers := [] } W)
    (hbody : ∀ (l k : Nat) (x : α) (M : Nat → Prop) (a' : Act) (W : World), xs[k]? = some x → I k M W → (∀ r, M r → w.heap.size + 1 ≤ r ∧ r < W.heap.size) → Holds K w W → D (w.heap.size + 1) x W → Ax x a' W → w.heap.size + 1 ≤ W.heap.size →
      body.wpIn (Fence.wide.inRound l) n P (bodyOk w.heap.size K I Ix k M W) a' W)
    (hdone : ∀ (M : Nat → Prop) (W : World), I xs.length M W → (∀ r, M r → w.heap.size + 1 ≤ r ∧ r < W.heap.size) → Q .normal a W)
    (hstop : ∀ (k : Nat) (M : Nat → Prop) (W : World), Ix k M W → (∀ r, M r → w.heap.size + 1 ≤ r ∧ r < W.heap.size) → Code.ret.wpIn (Fence.wide.inRound l₀) n P Q a W) :
    (Code.rangeFunc g ps assign body).wpIn (Fence.wide.inRound l₀) n P Q a w := by
  refine wpIn_rangeFunc ?_
  intro fn hfn
  obtain ⟨rec, hrec⟩ : ∃ rec : LoopState → Option Code → Loop, rec = fun st pe => { state := st, pending := pe, fn, tmps := a.tmps, params := ps, assign, body, defers := r₀.defers } := ⟨_, rfl⟩
  obtain ⟨W1, hW1⟩ : ∃ W1, w.alloc (.loop (rec .ready none)) = W1 := ⟨_, rfl⟩
  have hL1 : W1.heap[w.heap.size]? = some (.loop (rec .ready none)) := by rw [← hW1]; exact heap_alloc_new w _
  have hall : Holds (fun _ => True) w W1 := by rw [← hW1]; exact (Holds.refl _ w).alloc _
  have hsz : W1.heap.size = w.heap.size + 1 := by rw [← hW1]; simp
  have hI1 : I 0 (fun _ => False) W1 := hI 0 _ _ _ h0 (hall.mono (fun _ _ _ => trivial))
  refine ⟨w.heap.size, [], W1, { target := .fn (.func gf) lb, args := #[.func (.yield w.heap.size) #[] #[]] }, W1, gf,
    #[.func (.yield w.heap.size) #[] #[]] ++ lb, W1, ?_, ?_, fun _ _ => trivial, ?_, fun h => by simp [Fence.wide, Fence.inRound] at h, ?_⟩
  · rw [← hW1, hrec]; exact run_enterLoop_inner hl₀ _ _ _ _ _
  · simp only [resolve, hg]
    simp [go_sem]
  · simp [invoke, go_sem, eg]
  · refine CallsIn.inRound l₀ ?_
    refine callsIn_wide.2 ?_
    refine (hseq n w.heap.size
      (fun k M W => I k M W ∧ W.heap[w.heap.size]? = some (.loop (rec .ready none)))
      (fun k M W => Ix k M W ∧ W.heap[w.heap.size]? = some (.loop (rec .done (some .ret))))
      W1 (hall.mono (fun _ _ _ => trivial)) hall.size ?_ ?_ ?_ ⟨hI1, hL1⟩).mono ?_
    · rintro k M W W' ⟨h1, h2⟩ hh
      rw [hsz] at hh
      exact ⟨hI k M W W' h1 (hh.mono (fun r _ h => h.imp (fun h => by omega) id)), (hh.block _ (Array.getElem?_eq_some_iff.1 h2).1 (.inl (by omega))).trans h2⟩
    · rintro k M W W' ⟨h1, h2⟩ hh
      rw [hsz] at hh
      exact ⟨hIx k M W W' h1 (hh.mono (fun r _ h => h.imp (fun h => by omega) id)), (hh.block _ (Array.getElem?_eq_some_iff.1 h2).1 (.inl (by omega))).trans h2⟩
    · rintro k x M W hx ⟨hi, hl⟩ hM hKW hDx
      rw [hsz] at hDx hM
      have hlt : w.heap.size < W.heap.size := (Array.getElem?_eq_some_iff.1 hl).1
      have hM1 : ¬ M w.heap.size := fun h => by have := (hM _ h).1; omega
      have hK1' : ¬ K w.heap.size := fun h => by have := hK _ h; omega
      have hy := run_yield (P := P) (args := encs W1.heap.size x) hl (by rw [hrec]; exact hps _ x)
      rw [hrec, hsz] at hy
      rw [hsz]
      refine ⟨fn, _, assign, body, hy, roundIn_of_wpIn hfn (wpIn_mono (hassign w.heap.size k x M W hx hi hDx (by omega)) ?_)⟩
      rintro e a1 Wa h
      cases e with
      | normal =>
        obtain ⟨hh1, hax⟩ := h
        have hla : Wa.heap[w.heap.size]? = some (.loop (rec .ready none)) := (hh1.block _ hlt trivial).trans hl
        have hlta := hh1.size
        refine ⟨_, run_beginRound hla (by rw [hrec]), ?_⟩
        obtain ⟨W2, hW2⟩ : ∃ W2, Wa.putObj w.heap.size (.loop { rec .ready none with state := .busy }) = W2 := ⟨_, rfl⟩
        have hl2 : W2.heap[w.heap.size]? = some (.loop { rec .ready none with state := .busy }) := by rw [← hW2]; exact World.putObj_heap_same (by omega)
        have hsz2 : W2.heap.size = Wa.heap.size := by rw [← hW2]; simp
        have ha2 : ∀ Kx : Nat → Prop, ¬ Kx w.heap.size → Holds Kx Wa W2 := fun Kx h => by rw [← hW2]; exact (Holds.refl _ _).put _ h _
        have hw2 : ∀ Kx : Nat → Prop, ¬ Kx w.heap.size → Holds Kx W W2 := fun Kx h => (hh1.mono (fun _ _ _ => trivial)).trans (ha2 Kx h)
        rw [hW2]
        refine wpIn_mono (hbody w.heap.size k x M a1 W2 hx (hI _ _ _ _ hi (hw2 _ (fun h => h.elim (fun h => by omega) (fun h => hM1 h))))
          (fun r hr => ⟨(hM r hr).1, by have := (hM r hr).2; omega⟩) (((hall.mono (fun _ _ _ => trivial)).trans hKW).trans (hw2 _ hK1')) (hD _ _ _ _ (hw2 _ (by omega)) hDx) (hAx _ _ _ _ (ha2 _ (by simp)) hax) (by omega)) ?_
        rintro e a3 W3 hp
        cases e with
        | normal =>
          obtain ⟨M', h1, h2, hh, hi'⟩ := hp
          have hl3 := (hh.block _ (by omega) (.inr ⟨by omega, hM1⟩)).trans hl2
          have hs3 := hh.size
          have hr := run_endRound (P := P) none hl3
          have hM' : ¬ M' w.heap.size := fun h => (h2 _ h).elim (fun h => hM1 h) (fun h => by omega)
          refine ⟨_, _, hr, M', fun r hr => by simpa using h1 r hr, fun r hr => (h2 r hr).imp id (fun h => by omega), ?_, .inl ⟨rfl, hI _ _ _ _ hi' ((Holds.refl _ _).put _ (fun h => h.elim (fun h => by omega) (fun h => hM' h)) _), ?_⟩⟩
          · exact ((hw2 _ (fun h => h.elim (fun h => hK1' h) (fun h => by omega))).trans (hh.mono (fun r _ h => h.imp id (fun h => ⟨by omega, h.2⟩)))).put _ (fun h => h.elim (fun h => hK1' h) (fun h => by omega)) _
          · rw [hrec] at *; exact World.putObj_heap_same (by omega)
        | ret =>
          obtain ⟨M', h1, h2, hh, hi'⟩ := hp
          have hl3 := (hh.block _ (by omega) (.inr ⟨by omega, hM1⟩)).trans hl2
          have hs3 := hh.size
          have hr := run_endRound (P := P) (some .ret) hl3
          have hM' : ¬ M' w.heap.size := fun h => (h2 _ h).elim (fun h => hM1 h) (fun h => by omega)
          refine ⟨_, _, hr, M', fun r hr => by simpa using h1 r hr, fun r hr => (h2 r hr).imp id (fun h => by omega), ?_, .inr ⟨rfl, hIx _ _ _ _ hi' ((Holds.refl _ _).put _ (fun h => h.elim (fun h => by omega) (fun h => hM' h)) _), ?_⟩⟩
          · exact ((hw2 _ (fun h => h.elim (fun h => hK1' h) (fun h => by omega))).trans (hh.mono (fun r _ h => h.imp id (fun h => ⟨by omega, h.2⟩)))).put _ (fun h => h.elim (fun h => hK1' h) (fun h => by omega)) _
          · rw [hrec] at *; exact World.putObj_heap_same (by omega)
        | exit id => exact hp.elim
        | goto t => exact hp.elim
        | panic ch => exact hp.elim
        | outgrown => exact hp.elim
      | ret => exact h.elim
      | exit id => exact h.elim
      | goto t => exact h.elim
      | panic ch => exact h.elim
      | outgrown => exact h.elim
    · rintro e W2 ⟨⟨v, rfl⟩, M, hM, (⟨hi, hl⟩ | ⟨k, hi, hl⟩)⟩
      · refine ⟨none, _, by have := run_endLoop (P := P) hl (by rw [hrec]; simp); rw [hrec] at this; exact this, hdone M _ (hI _ _ _ _ hi ?_) ?_⟩
        · exact (Holds.refl _ _).put _ (fun h => h.elim (fun h => by omega) (fun h => by have := (hM _ h).1; omega)) _
        · intro r hr; exact ⟨by have := (hM r hr).1; omega, by simpa using (hM r hr).2⟩
      · refine ⟨some .ret, _, by have := run_endLoop (P := P) hl (by rw [hrec]; simp); rw [hrec] at this; exact this, hstop k M _ (hIx _ _ _ _ hi ?_) ?_⟩
        · exact (Holds.refl _ _).put _ (fun h => h.elim (fun h => by omega) (fun h => by have := (hM _ h).1; omega)) _
        · intro r hr; exact ⟨by have := (hM r hr).1; omega, by simpa using (hM r hr).2⟩
end Go.Proofs.Ytdploccpobpjjaa
