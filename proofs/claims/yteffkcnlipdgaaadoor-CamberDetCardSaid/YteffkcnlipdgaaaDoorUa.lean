/- A region that draws its order of evaluation, walked once for each operation: by a word on the memory for each set of operations that have run. -/
import Derived.Orders
import Derived.Deep.RegionHeld3
import Derived.Laws.World
namespace Go.Proofs.YteffkcnlipdgaaaDoor
open Go
set_option linter.unusedVariables false
set_option linter.unusedSimpArgs false

/-- 'op i of the region has run', off the list that the model keeps. -/
def lst (l : Array Bool) (i : Nat) : Bool := l.getD i false
/-- 'and now i has, too'. -/
def add (L : Nat → Bool) (i : Nat) : Nat → Bool := fun j => if j = i then true else L j
theorem add_same (L : Nat → Bool) (i : Nat) : add L i i = true := by simp [add]
theorem add_other (L : Nat → Bool) (i j : Nat) (h : j ≠ i) : add L i j = L j := by simp [add, h]
def notSelect : Op → Bool
  | .select _ _ => false
  | _ => true
def bindsOn (md : Region.Mode) (o : Oper) (k : Nat) : Bool := o.after.toList.any fun e => e.on == k && Region.binds md e
/-- Each operation stands behind those whose slots it looks at, and edges lead back; no two write one slot. -/
def okU (md : Region.Mode) (E : List Nat) (ops : Array Oper) : Bool :=
  ((List.range ops.size).all fun i => match ops[i]? with
    | none => true
    | some o => notSelect o.op && (o.after.toList.all fun e => !Region.binds md e || decide (e.on < i)) &&
      ((List.range ops.size).all fun k => match ops[k]? with
        | none => true
        | some p => match p.dst with
          | none => true
          | some d => (!(o.looksAt ops).contains d || bindsOn md o k || E.contains d) && (i == k || o.dst != some d)))
theorem okU_op {md : Region.Mode} {E : List Nat} {ops : Array Oper} (h : okU md E ops = true) {i : Nat} {o : Oper} (ho : ops[i]? = some o) :
    (∀ cs b, o.op ≠ .select cs b) ∧ (∀ e ∈ o.after, Region.binds md e = true → e.on < i) ∧
    (∀ k p d, ops[k]? = some p → p.dst = some d → (d ∈ o.looksAt ops → bindsOn md o k = true ∨ d ∈ E) ∧ (i ≠ k → o.dst ≠ some d)) := by
  have hi : i < ops.size := (Array.getElem?_eq_some_iff.1 ho).1
  have h1 := List.all_eq_true.1 h i (List.mem_range.2 hi)
  simp only [ho, Bool.and_eq_true, List.all_eq_true] at h1
  obtain ⟨⟨h1, h2⟩, h3⟩ := h1
  refine ⟨?_, ?_, ?_⟩
  · intro cs b e; rw [e] at h1; simp [notSelect] at h1
  · intro e he hb
    have := h2 e (by simpa using he)
    simpa [hb] using this
  · intro k p d hk hd
    have hk2 : k < ops.size := (Array.getElem?_eq_some_iff.1 hk).1
    have := h3 k (List.mem_range.2 hk2)
    simp only [hk, hd, Bool.and_eq_true, Bool.or_eq_true, Bool.not_eq_true', beq_iff_eq, bne_iff_ne] at this
    refine ⟨fun hm => ?_, fun hne => ?_⟩
    · rcases this.1 with (h | h) | h
      · simp [hm] at h
      · exact .inl h
      · exact .inr (by simpa using h)
    · rcases this.2 with h | h
      · exact absurd h hne
      · exact h
/-- a holds what f holds in every slot whose operations have run. -/
def Agree (E : List Nat) (ops : Array Oper) (L : Nat → Bool) (a f : Act) : Prop :=
  a.defers = f.defers ∧ a.tmps.size = f.tmps.size ∧ ∀ t : Nat, (t ∈ E ∨ ∀ k p, ops[k]? = some p → p.dst = some t → L k = true) → a.tmps[t]? = f.tmps[t]?
theorem Agree.put {md : Region.Mode} {E : List Nat} {ops : Array Oper} {L : Nat → Bool} {a f : Act} (h : Agree E ops L a f) (hk : okU md E ops = true) {i : Nat} {o : Oper} (ho : ops[i]? = some o) (v : Value) :
    Agree E ops (add L i) (a.put o.dst v) (f.put o.dst v) := by
  obtain ⟨h1, h2, h3⟩ := h
  cases hd : o.dst with
  | none =>
    refine ⟨h1, h2, fun t ht => h3 t (ht.imp id fun ht k p hp hpd => ?_)⟩
    have := ht k p hp hpd
    by_cases e : k = i
    · subst e; rw [ho] at hp; obtain rfl := Option.some.inj hp; rw [hd] at hpd; cases hpd
    · rwa [add_other _ _ _ e] at this
  | some d =>
    refine ⟨h1, by simp [Act.put, h2], fun t ht => ?_⟩
    by_cases e : d = t
    · subst e
      simp only [Act.put, Array.getElem?_setIfInBounds, h2]
      simp
    · simp only [Act.put, Array.getElem?_setIfInBounds_ne e]
      refine h3 t (ht.imp id fun ht k p hp hpd => ?_)
      have := ht k p hp hpd
      by_cases e2 : k = i
      · subst e2; rw [ho] at hp; obtain rfl := Option.some.inj hp; rw [hd] at hpd; exact absurd (Option.some.inj hpd) e
      · rwa [add_other _ _ _ e2] at this
theorem Agree.defer {E : List Nat} {ops : Array Oper} {L : Nat → Bool} {a f : Act} (h : Agree E ops L a f) (d : Deferred) :
    Agree E ops L { a with defers := d :: a.defers } { f with defers := d :: f.defers } :=
  ⟨by simp [h.1], h.2.1, h.2.2⟩
theorem Agree.looks {md : Region.Mode} {E : List Nat} {ops : Array Oper} {L : Nat → Bool} {a f : Act} (h : Agree E ops L a f) (hk : okU md E ops = true) {i : Nat} {o : Oper} (ho : ops[i]? = some o)
    (hr : ∀ e ∈ o.after, Region.binds md e = true → L e.on = true) {t : Nat} (ht : t ∈ o.looksAt ops) : a.tmps[t]? = f.tmps[t]? := by
  by_cases hE : t ∈ E
  · exact h.2.2 t (.inl hE)
  refine h.2.2 t (.inr fun k p hp hpd => ?_)
  have := (((okU_op hk ho).2.2 k p t hp hpd).1 ht).resolve_right hE
  unfold bindsOn at this
  obtain ⟨e, he, h2⟩ := List.any_eq_true.1 this
  simp only [Bool.and_eq_true, beq_iff_eq] at h2
  obtain ⟨rfl, h2⟩ := h2
  exact hr e (by simpa using he) h2
theorem Agree.exec {md : Region.Mode} {E : List Nat} {ops : Array Oper} {L : Nat → Bool} {a f : Act} (h : Agree E ops L a f) (hk : okU md E ops = true) {i : Nat} {o : Oper} (ho : ops[i]? = some o)
    (hr : ∀ e ∈ o.after, Region.binds md e = true → L e.on = true) :
    execOp a.eval o = execOp f.eval o ∧ Region.wanted o (yielded ops a.tmps) = Region.wanted o (yielded ops f.tmps) := by
  refine ⟨execOp_congr o (okU_op hk ho).1 fun x hx => ?_, ?_⟩
  · cases x with
    | tmp t =>
      have := h.looks hk ho hr (t := t) (List.mem_append_left _ (List.mem_filterMap.2 ⟨.tmp t, by simpa using hx, rfl⟩))
      simp only [Act.eval, Array.getD_eq_getD_getElem?, this]
    | _ => rfl
  · unfold Region.wanted
    cases hg : o.guard with
    | none => rfl
    | some gw =>
      obtain ⟨g, want⟩ := gw
      have hy : yielded ops a.tmps g = yielded ops f.tmps g := by
        unfold yielded
        cases ht : (ops[g]?).bind (·.dst) with
        | none => rfl
        | some t =>
          have := h.looks hk ho hr (t := t) (by simp [Oper.looksAt, hg, ht])
          simp only [Option.bind_some, this]
      simp only [hy]

section
variable {P : Program} {ops : Array Oper} {Q : Exit → Act → World → Prop} {md : Region.Mode} {G : Type} {E : List Nat}
/-- One operation, where all slots hold what they will hold. -/
def StepU (P : Program) (ops : Array Oper) (Q : Exit → Act → World → Prop) (f : G → Act) (F : G → (Nat → Bool) → World → Prop) (i : Nat) (o : Oper) (g : G) (L : Nat → Bool) (w : World) : Prop :=
  if Region.wanted o (yielded ops (f g).tmps) then o.wp P (f g) w (fun a' w' => ∃ g', f g' = a' ∧ F g' (add L i) w') Q
  else ∃ g', f g' = (f g).put o.dst undef ∧ F g' (add L i) w
theorem wpOp_agree {f : G → Act} {F : G → (Nat → Bool) → World → Prop} (hk : okU md E ops = true) (hQ : ∀ c a b w, Q (.panic c) a w → Q (.panic c) b w)
    {i : Nat} {o : Oper} (ho : ops[i]? = some o) {g : G} {L : Nat → Bool} {a : Act} {w : World} (hag : Agree E ops L a (f g))
    (hr : ∀ e ∈ o.after, Region.binds md e = true → L e.on = true) (h : StepU P ops Q f F i o g L w) :
    wpOp P ops Q i (fun a' w' => ∃ g', Agree E ops (add L i) a' (f g') ∧ F g' (add L i) w') a w := by
  obtain ⟨he, hw⟩ := hag.exec hk ho hr
  unfold StepU at h
  unfold wpOp
  simp only [ho]
  rw [hw]
  split
  · rename_i hwt
    rw [if_pos hwt] at h
    refine .inl ?_
    unfold Oper.wp at *
    rw [he]
    generalize (execOp (f g).eval o).run P w = r at *
    have hv : ∀ u w', (∃ g', f g' = (f g).put o.dst u ∧ F g' (add L i) w') → ∃ g', Agree E ops (add L i) (a.put o.dst u) (f g') ∧ F g' (add L i) w' :=
      fun u w' ⟨g', e, hF⟩ => ⟨g', by rw [e]; exact hag.put hk ho u, hF⟩
    cases r with
    | ok n w' =>
      cases n <;> simp only [Oper.upon] at h ⊢
      case value u => exact hv u w' h
      case skip => exact hv undef w' h
      case defer d =>
        obtain ⟨g', e, hF⟩ := h
        exact ⟨g', by rw [e]; exact (hag.defer d).put hk ho undef, hF⟩
      case enter fn args =>
        refine Calls.mono h fun e w'' he => ?_
        cases e with
        | returned u => exact hv u w'' he
        | panicked c => exact hQ _ _ _ _ he
        | outgrown => exact he
      case row row args => exact Rows.mono h fun u w'' he => hv u w'' he
    | halt x w' =>
      cases x <;> simp only [Oper.upon] at h ⊢
      case panic u => exact hQ _ _ _ _ h
  · rename_i hwt
    rw [if_neg hwt] at h
    obtain ⟨g', e, hF⟩ := h
    exact ⟨g', by rw [e]; exact hag.put hk ho undef, hF⟩
def left (l : Array Bool) : Nat := (l.toList.filter (!·)).length
theorem lst_set (l : Array Bool) (i : Nat) (hi : i < l.size) : lst (l.setIfInBounds i true) = add (lst l) i := by
  funext j
  unfold lst add
  by_cases h : j = i
  · subst h; simp [hi]
  · simp [Array.getElem?_setIfInBounds_ne (Ne.symm h), h]
theorem left_set (l : Array Bool) (i : Nat) (hi : i < l.size) (h : l[i]? = some false) : left (l.setIfInBounds i true) + 1 = left l := by
  unfold left
  rw [Array.toList_setIfInBounds]
  have h2 : l.toList[i]? = some false := by simpa using h
  obtain ⟨l⟩ := l
  simp only at *
  clear hi h
  induction l generalizing i with
  | nil => simp at h2
  | cons x xs ih =>
    cases i with
    | zero => simp at h2; subst h2; simp
    | succ i =>
      simp at h2
      have := ih i (by simpa using h2)
      cases x <;> simp_all
/-- What has run stands on what has run. -/
def Closed (md : Region.Mode) (ops : Array Oper) (L : Nat → Bool) : Prop := ∀ i o, ops[i]? = some o → L i = true → ∀ k, bindsOn md o k = true → L k = true
theorem Closed.not {L : Nat → Bool} (h : Closed md ops L) (i k : Nat) {o : Oper} (ho : ops[i]? = some o) (hb : bindsOn md o k = true) (hk : L k = false) : L i = false := by
  cases hi : L i with
  | false => rfl
  | true => have := h i o ho hi k hb; rw [hk] at this; cases this
theorem Closed.add {L : Nat → Bool} (h : Closed md ops L) {i : Nat} {o : Oper} (ho : ops[i]? = some o) (hr : ∀ k, bindsOn md o k = true → L k = true) : Closed md ops (add L i) := by
  intro j p hp hj k hb
  by_cases e : k = i
  · subst e; exact add_same L k
  · rw [add_other _ _ _ e]
    by_cases e2 : j = i
    · subst e2; rw [ho] at hp; obtain rfl := Option.some.inj hp; exact hr k hb
    · rw [add_other _ _ _ e2] at hj; exact h j p hp hj k hb
theorem binds_all {L : Nat → Bool} {o : Oper} : (∀ e ∈ o.after, Region.binds md e = true → L e.on = true) ↔ ∀ k, bindsOn md o k = true → L k = true := by
  constructor
  · intro h k hb
    unfold bindsOn at hb
    obtain ⟨e, he, h2⟩ := List.any_eq_true.1 hb
    simp only [Bool.and_eq_true, beq_iff_eq] at h2
    obtain ⟨rfl, h2⟩ := h2
    exact h e (by simpa using he) h2
  · intro h e he hb
    exact h e.on (List.any_eq_true.2 ⟨e, by simpa using he, by simp [hb]⟩)
theorem region_inv {f : G → Act} {F : G → (Nat → Bool) → World → Prop} (hk : okU md E ops = true) (hQ : ∀ c a b w, Q (.panic c) a w → Q (.panic c) b w)
    (steps : ∀ i o, ops[i]? = some o → ∀ g L w, L i = false → (∀ e ∈ o.after, Region.binds md e = true → L e.on = true) → Closed md ops L → F g L w → StepU P ops Q f F i o g L w)
    (fin : ∀ g L w, (∀ i, i < ops.size → L i = true) → F g L w → Q .normal (f g) w) :
    ∀ (fuel : Nat) (l : Array Bool) (a : Act) (w : World), l.size = ops.size → left l ≤ fuel → (∃ g, Agree E ops (lst l) a (f g) ∧ Closed md ops (lst l) ∧ F g (lst l) w) → wpAny P md ops Q fuel l a w := by
  have fine : ∀ (l : Array Bool) (a : Act) (w : World), l.size = ops.size → (∃ g, Agree E ops (lst l) a (f g) ∧ Closed md ops (lst l) ∧ F g (lst l) w) → Region.ready md ops l = [] → Q .normal a w := by
    intro l a w hl ⟨g, hag, _, hF⟩ hr
    have all : ∀ n i, i < n → i < ops.size → lst l i = true := by
      intro n
      induction n with
      | zero => intro i h; omega
      | succ n ih =>
        intro i h hi
        by_cases hin : i < n
        · exact ih i hin hi
        · obtain rfl : i = n := by omega
          cases hb : lst l i with
          | true => rfl
          | false =>
            have ho : ops[i]? = some ops[i] := Array.getElem?_eq_getElem hi
            have : i ∈ Region.ready md ops l := by
              rw [mem_ready]
              refine ⟨?_, ops[i], ho, fun e he hbd => ?_⟩
              · unfold lst at hb
                have : i < l.size := by omega
                simp [this] at hb ⊢
                exact hb
              · have hlt := (okU_op hk ho).2.1 e he hbd
                exact ih e.on (by omega) (by omega)
            rw [hr] at this
            cases this
    have e : a = f g := by
      obtain ⟨h1, h2, h3⟩ := hag
      have : a.tmps = (f g).tmps := Array.ext_getElem? fun t => h3 t (.inr fun k p hp _ => all ops.size k (Array.getElem?_eq_some_iff.1 hp).1 (Array.getElem?_eq_some_iff.1 hp).1)
      cases a; cases hfg : f g; rw [hfg] at this h1; simp_all
    rw [e]
    exact fin g (lst l) w (fun i hi => all ops.size i hi hi) hF
  intro fuel
  induction fuel with
  | zero =>
    intro l a w hl hf hg
    have hr : Region.ready md ops l = [] := by
      apply List.eq_nil_iff_forall_not_mem.2
      intro j hj
      rw [mem_ready] at hj
      obtain ⟨h1, o, ho, _⟩ := hj
      have hjl : j < l.size := by rw [hl]; exact (Array.getElem?_eq_some_iff.1 ho).1
      have h2 : l[j]? = some false := by simp [hjl] at h1 ⊢; exact h1
      have := left_set l j hjl h2
      omega
    exact ⟨hr, fine l a w hl hg hr⟩
  | succ fuel ih =>
    intro l a w hl hf hg
    refine ⟨fine l a w hl hg, fun i hi => ?_⟩
    obtain ⟨g, hag, hc, hF⟩ := hg
    rw [mem_ready] at hi
    obtain ⟨h1, o, ho, hall⟩ := hi
    have hil : i < l.size := by rw [hl]; exact (Array.getElem?_eq_some_iff.1 ho).1
    have h2 : l[i]? = some false := by simp [hil] at h1 ⊢; exact h1
    have hs := left_set l i hil h2
    have hLi : lst l i = false := by unfold lst; simp [h2]
    refine wpOp_mono (fun a' w' hI => ih (l.setIfInBounds i true) a' w' (by simp [hl]) (by omega) ?_)
      (wpOp_agree hk hQ ho hag (fun e he hb => hall e he hb) (steps i o ho g (lst l) w hLi (fun e he hb => hall e he hb) hc hF))
    rw [lst_set l i hil]
    obtain ⟨g', h1, h2⟩ := hI
    exact ⟨g', h1, hc.add ho (binds_all.1 hall), h2⟩
/-- The slots filled with what the operations yield. -/
def fill (ops : Array Oper) (vs : List Value) (a : Act) : Act := (ops.toList.zip vs).foldl (fun a ov => a.put ov.1.dst ov.2) a
theorem fill_agree (ops : Array Oper) (vs : List Value) (a : Act) : Agree [] ops (fun _ => false) a (fill ops vs a) := by
  have key : ∀ (l : List (Oper × Value)) (a : Act), (∀ ov ∈ l, ∃ k : Nat, ops[k]? = some ov.1) → Agree [] ops (fun _ => false) a (l.foldl (fun a ov => a.put ov.1.dst ov.2) a) := by
    intro l
    induction l with
    | nil => intro a _; exact ⟨rfl, rfl, fun _ _ => rfl⟩
    | cons ov l ih =>
      intro a h
      have h2 := ih (a.put ov.1.dst ov.2) (fun x hx => h x (List.mem_cons_of_mem _ hx))
      obtain ⟨k, hk⟩ := h ov List.mem_cons_self
      obtain ⟨h3, h4, h5⟩ := h2
      refine ⟨?_, ?_, fun t ht => ?_⟩
      · rw [List.foldl_cons, ← h3]; cases ov.1.dst <;> rfl
      · rw [List.foldl_cons, ← h4]; cases ov.1.dst <;> simp [Act.put]
      · rw [List.foldl_cons, ← h5 t ht]
        cases hd : ov.1.dst with
        | none => rfl
        | some d =>
          have hne : d ≠ t := by
            intro e
            have := (ht.resolve_left (by simp)) k ov.1 hk (by rw [hd, e])
            cases this
          simp [Act.put, Array.getElem?_setIfInBounds_ne hne]
  refine key _ a fun ov hov => ?_
  have := (List.of_mem_zip hov).1
  obtain ⟨k, hk⟩ := List.mem_iff_getElem?.1 this
  exact ⟨k, by simpa using hk⟩
theorem Agree.early {L : Nat → Bool} {a f : Act} (h : Agree [] ops L a f) (hE : ∀ t ∈ E, a.tmps[t]? = f.tmps[t]?) : Agree E ops L a f :=
  ⟨h.1, h.2.1, fun t ht => ht.elim (hE t) fun h' => h.2.2 t (.inr h')⟩
/-- The steps of a region from the k-th operation on. -/
def StepsU (P : Program) (ops : Array Oper) (Q : Exit → Act → World → Prop) (f : G → Act) (F : G → (Nat → Bool) → World → Prop) (n : Nat) : Prop :=
  ∀ i o, n ≤ i → ops[i]? = some o → ∀ g L w, L i = false → (∀ k, bindsOn .any o k = true → L k = true) → Closed .any ops L → F g L w → StepU P ops Q f F i o g L w
theorem StepsU.nil {f : G → Act} {F : G → (Nat → Bool) → World → Prop} {n : Nat} (h : ops.size ≤ n) : StepsU P ops Q f F n := fun i o hn ho => by
  have := (Array.getElem?_eq_some_iff.1 ho).1; omega
theorem StepsU.cons {f : G → Act} {F : G → (Nat → Bool) → World → Prop} {n : Nat} {o : Oper} (ho : ops[n]? = some o)
    (h : ∀ g L w, L n = false → (∀ k, bindsOn .any o k = true → L k = true) → Closed .any ops L → F g L w → StepU P ops Q f F n o g L w)
    (hs : StepsU P ops Q f F (n + 1)) : StepsU P ops Q f F n := fun i p hn hp => by
  by_cases e : i = n
  · subst e; rw [ho] at hp; obtain rfl := Option.some.inj hp; exact h
  · exact hs i p (by omega) hp
theorem StepU.go {f : G → Act} {F : G → (Nat → Bool) → World → Prop} {i : Nat} {o : Oper} {g : G} {L : Nat → Bool} {w : World} (hw : Region.wanted o (yielded ops (f g).tmps) = true)
    (h : ∀ K : Act → World → Prop, (∀ g' w', F g' (add L i) w' → K (f g') w') → o.wp P (f g) w K Q) : StepU P ops Q f F i o g L w := by
  unfold StepU; rw [if_pos hw]; exact h _ (fun g' w' hF => ⟨g', rfl, hF⟩)
theorem StepU.struck {f : G → Act} {F : G → (Nat → Bool) → World → Prop} {i : Nat} {o : Oper} {g : G} {L : Nat → Bool} {w : World} (hw : Region.wanted o (yielded ops (f g).tmps) = false)
    (h : ∃ g', f g' = (f g).put o.dst undef ∧ F g' (add L i) w) : StepU P ops Q f F i o g L w := by
  unfold StepU; rw [if_neg (by rw [hw]; simp)]; exact h
/-- A region that draws its order, by a word F on the memory for each set of operations that have run; vs: what the operations yield. -/
theorem region_any_early (E : List Nat) {id : Nat} {a : Act} {w : World} (vs : G → List Value) (F : G → (Nat → Bool) → World → Prop) (g : G) {f : G → Act} (hf : ∀ g, fill ops (vs g) a = f g)
    (hm : P.follows .mixedOrders = true) (hk : okU .any E ops = true) (hE : ∀ t ∈ E, a.tmps[t]? = (f g).tmps[t]?)
    (hF : F g (fun _ => false) w.drew) (steps : StepsU P ops (NoPanic Q) f F 0)
    (fin : ∀ g L w, (∀ i, i < ops.size → L i = true) → F g L w → Q .normal (f g) w) : (Code.region id ops true).wp P Q a w := by
  refine wp_region_noPanic (wp_region_any hm ?_)
  have e : lst (Array.replicate ops.size false) = fun _ => false := by
    funext j; unfold lst; by_cases h : j < ops.size <;> simp [h]
  refine region_inv hk (fun _ _ _ _ h => h) (fun i o ho g L w hL hr hc hF => steps i o (Nat.zero_le _) ho g L w hL (binds_all.1 hr) hc hF) fin _ _ _ _ (by simp) ?_
    ⟨g, by rw [e]; exact Agree.early (by rw [← hf]; exact fill_agree _ _ _) hE, by rw [e]; exact ⟨fun i o ho h => (by cases h), hF⟩⟩
  unfold left
  exact Nat.le_trans (List.length_filter_le _ _) (by simp)
/-- The same, where no operation reads a slot that a later one writes. -/
theorem region_any_inv {id : Nat} {a : Act} {w : World} (vs : G → List Value) (F : G → (Nat → Bool) → World → Prop) (g : G) {f : G → Act} (hf : ∀ g, fill ops (vs g) a = f g)
    (hm : P.follows .mixedOrders = true) (hk : okU .any [] ops = true)
    (hF : F g (fun _ => false) w.drew) (steps : StepsU P ops (NoPanic Q) f F 0)
    (fin : ∀ g L w, (∀ i, i < ops.size → L i = true) → F g L w → Q .normal (f g) w) : (Code.region id ops true).wp P Q a w :=
  region_any_early [] vs F g hf hm hk (fun _ h => by cases h) hF steps fin
end
end Go.Proofs.YteffkcnlipdgaaaDoor
