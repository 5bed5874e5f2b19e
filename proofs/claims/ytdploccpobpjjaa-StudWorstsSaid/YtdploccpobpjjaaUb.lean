/- A region that draws its order of evaluation, inside a fence: walked once for each operation, as in Ua. -/
import Derived.OrdersIn
import Derived.TacticsIn
import Derived.OwnWalkIn
import Derived.Test.YtdploccpobpjjaaUa
namespace Go.Proofs.Ytdploccpobpjjaa
open Go
set_option linter.unusedVariables false
set_option linter.unusedSimpArgs false

def notDefer : Op → Bool
  | .defer _ => false
  | _ => true
/-- No operation of the region defers. -/
def noDefers (ops : Array Oper) : Bool := ops.toList.all fun o => notDefer o.op
theorem noDefers_op {ops : Array Oper} (h : noDefers ops = true) {i : Nat} {o : Oper} (ho : ops[i]? = some o) : ∀ c, o.op ≠ .defer c := by
  intro c e
  have hm : o ∈ ops.toList := by
    obtain ⟨hi, rfl⟩ := Array.getElem?_eq_some_iff.1 ho
    simp
  have := List.all_eq_true.1 h o hm
  rw [e] at this
  cases this
theorem Agree.about {md : Region.Mode} {E : List Nat} {ops : Array Oper} {L : Nat → Bool} {a f : Act} (h : Agree E ops L a f) (hk : okU md E ops = true) {i : Nat} {o : Oper} (ho : ops[i]? = some o)
    (hr : ∀ e ∈ o.after, Region.binds md e = true → L e.on = true) (P : Program) (w : World) : o.about P w a.eval = o.about P w f.eval := by
  refine about_congr o w fun x hx => ?_
  cases x with
  | tmp t =>
    have := h.looks hk ho hr (t := t) (List.mem_append_left _ (List.mem_filterMap.2 ⟨.tmp t, by simpa using hx, rfl⟩))
    simp only [Act.eval, Array.getD_eq_getD_getElem?, this]
  | _ => rfl
section
variable {Fe : Fence} {n : Nat} {P : Program} {ops : Array Oper} {Q : Exit → Act → World → Prop} {md : Region.Mode} {G : Type} {E : List Nat}
/-- One operation in a fence, where all slots hold what they will hold. -/
def StepIn (Fe : Fence) (n : Nat) (P : Program) (ops : Array Oper) (Q : Exit → Act → World → Prop) (f : G → Act) (F : G → (Nat → Bool) → World → Prop) (i : Nat) (o : Oper) (g : G) (L : Nat → Bool) (w : World) : Prop :=
  if Region.wanted o (yielded ops (f g).tmps) then o.wpIn Fe n P (f g) w (fun a' w' => ∃ g', f g' = a' ∧ F g' (add L i) w') Q
  else (∀ fn, o.about P w (f g).eval = some fn → Fe.fn fn) ∧ ∃ g', f g' = (f g).put o.dst undef ∧ F g' (add L i) w
theorem wpOpIn_agree {f : G → Act} {F : G → (Nat → Bool) → World → Prop} (hk : okU md E ops = true) (hd : noDefers ops = true) (hQ : ∀ c a b w, Q (.panic c) a w → Q (.panic c) b w)
    {i : Nat} {o : Oper} (ho : ops[i]? = some o) {g : G} {L : Nat → Bool} {a : Act} {w : World} (hag : Agree E ops L a (f g))
    (hr : ∀ e ∈ o.after, Region.binds md e = true → L e.on = true) (h : StepIn Fe n P ops Q f F i o g L w) :
    wpOpIn Fe n P ops Q i (fun a' w' => ∃ g', Agree E ops (add L i) a' (f g') ∧ F g' (add L i) w') a w := by
  obtain ⟨he, hw⟩ := hag.exec hk ho hr
  have hab := hag.about hk ho hr P w
  have hnd := noDefers_op hd ho
  unfold StepIn at h
  unfold wpOpIn
  simp only [ho]
  rw [hw, hab]
  split
  · rename_i hwt
    rw [if_pos hwt] at h
    unfold Oper.wpIn at *
    rw [hab]
    refine ⟨h.1, ?_⟩
    have h := h.2
    rw [Oper.semAt_plain Fe _ o hnd] at h
    rw [Oper.semAt_plain Fe _ o hnd, he]
    generalize (execOp (f g).eval o).run P w = r at *
    have hv : ∀ u w', (∃ g', f g' = (f g).put o.dst u ∧ F g' (add L i) w') → ∃ g', Agree E ops (add L i) (a.put o.dst u) (f g') ∧ F g' (add L i) w' :=
      fun u w' ⟨g', e, hF⟩ => ⟨g', by rw [e]; exact hag.put hk ho u, hF⟩
    cases r with
    | ok x w' =>
      cases x <;> simp only [Oper.uponIn] at h ⊢
      case value u => exact hv u w' h
      case skip => exact hv undef w' h
      case defer d =>
        obtain ⟨g', e, hF⟩ := h
        exact ⟨g', by rw [e]; exact (hag.defer d).put hk ho undef, hF⟩
      case enter fn args =>
        refine ⟨h.1, CallsIn.mono h.2 fun e w'' he => ?_⟩
        cases e with
        | returned u => exact hv u w'' he
        | panicked c => exact hQ _ _ _ _ he
        | outgrown => exact he
      case row row args => exact ⟨h.1, RowsIn.mono h.2 fun u w'' he => hv u w'' he⟩
      case round l fn tmps assign body =>
        refine ⟨h.1, RoundIn.mono h.2 fun e w'' he => ?_⟩
        cases e with
        | returned u => exact hv u w'' he
        | panicked c => exact hQ _ _ _ _ he
        | outgrown => exact he
    | halt x w' =>
      cases x <;> simp only [Oper.uponIn] at h ⊢
      case panic u => exact hQ _ _ _ _ h
  · rename_i hwt
    rw [if_neg hwt] at h
    refine ⟨h.1, ?_⟩
    obtain ⟨g', e, hF⟩ := h.2
    exact ⟨g', by rw [e]; exact hag.put hk ho undef, hF⟩
theorem region_invIn {f : G → Act} {F : G → (Nat → Bool) → World → Prop} (hk : okU md E ops = true) (hd : noDefers ops = true) (hQ : ∀ c a b w, Q (.panic c) a w → Q (.panic c) b w)
    (steps : ∀ i o, ops[i]? = some o → ∀ g L w, L i = false → (∀ e ∈ o.after, Region.binds md e = true → L e.on = true) → Closed md ops L → F g L w → StepIn Fe n P ops Q f F i o g L w)
    (fin : ∀ g L w, (∀ i, i < ops.size → L i = true) → F g L w → Q .normal (f g) w) :
    ∀ (fuel : Nat) (l : Array Bool) (a : Act) (w : World), l.size = ops.size → left l ≤ fuel → (∃ g, Agree E ops (lst l) a (f g) ∧ Closed md ops (lst l) ∧ F g (lst l) w) → wpAnyIn Fe n P md ops Q fuel l a w := by
  have fine : ∀ (l : Array Bool) (a : Act) (w : World), l.size = ops.size → (∃ g, Agree E ops (lst l) a (f g) ∧ Closed md ops (lst l) ∧ F g (lst l) w) → Region.ready md ops l = [] → Q .normal a w := by
    intro l a w hl ⟨g, hag, _, hF⟩ hr
    have all : ∀ n i, i < n → i < ops.size → lst l i = true := by
      intro n9
      induction n9 with
      | zero => intro i h; omega
      | succ n9 ih =>
        intro i h hi
        by_cases hin : i < n9
        · exact ih i hin hi
        · obtain rfl : i = n9 := by omega
          cases hb : lst l i with
          | true => rfl
          | false =>
            have ho : ops[i]? = some ops[i] := Array.getElem?_eq_getElem hi
            have : i ∈ Region.ready md ops l := by
              rw [mem_ready]
              refine ⟨?_, ops[i], ho, fun e he hbd => ?_⟩
              · unfold lst at hb
                have : i < l.size := by omega
                simp [this] at hb ⊢
                exact hb
              · have hlt := (okU_op hk ho).2.1 e he hbd
                exact ih e.on (by omega) (by omega)
            rw [hr] at this
            cases this
    have e : a = f g := by
      obtain ⟨h1, h2, h3⟩ := hag
      have : a.tmps = (f g).tmps := Array.ext_getElem? fun t => h3 t (.inr fun k p hp _ => all ops.size k (Array.getElem?_eq_some_iff.1 hp).1 (Array.getElem?_eq_some_iff.1 hp).1)
      cases a; cases hfg : f g; rw [hfg] at this h1; simp_all
    rw [e]
    exact fin g (lst l) w (fun i hi => all ops.size i hi hi) hF
  intro fuel
  induction fuel with
  | zero =>
    intro l a w hl hf hg
    have hr : Region.ready md ops l = [] := by
      apply List.eq_nil_iff_forall_not_mem.2
      intro j hj
      rw [mem_ready] at hj
      obtain ⟨h1, o, ho, _⟩ := hj
      have hjl : j < l.size := by rw [hl]; exact (Array.getElem?_eq_some_iff.1 ho).1
      have h2 : l[j]? = some false := by simp [hjl] at h1 ⊢; exact h1
      have := left_set l j hjl h2
      omega
    exact ⟨hr, fine l a w hl hg hr⟩
  | succ fuel ih =>
    intro l a w hl hf hg
    refine ⟨fine l a w hl hg, fun i hi => ?_⟩
    obtain ⟨g, hag, hc, hF⟩ := hg
    rw [mem_ready] at hi
    obtain ⟨h1, o, ho, hall⟩ := hi
    have hil : i < l.size := by rw [hl]; exact (Array.getElem?_eq_some_iff.1 ho).1
    have h2 : l[i]? = some false := by simp [hil] at h1 ⊢; exact h1
    have hs := left_set l i hil h2
    have hLi : lst l i = false := by unfold lst; simp [h2]
    refine wpOpIn_mono (fun a' w' hI => ih (l.setIfInBounds i true) a' w' (by simp [hl]) (by omega) ?_)
      (wpOpIn_agree hk hd hQ ho hag (fun e he hb => hall e he hb) (steps i o ho g (lst l) w hLi (fun e he hb => hall e he hb) hc hF))
    rw [lst_set l i hil]
    obtain ⟨g', h1, h2⟩ := hI
    exact ⟨g', h1, hc.add ho (binds_all.1 hall), h2⟩
variable {n9 : Nat}
/-- The steps of a region from the k-th operation on. -/
def StepsIn (Fe : Fence) (n9 : Nat) (P : Program) (ops : Array Oper) (Q : Exit → Act → World → Prop) (f : G → Act) (F : G → (Nat → Bool) → World → Prop) (n : Nat) : Prop :=
  ∀ i o, n ≤ i → ops[i]? = some o → ∀ g L w, L i = false → (∀ k, bindsOn .any o k = true → L k = true) → Closed .any ops L → F g L w → StepIn Fe n9 P ops Q f F i o g L w
theorem StepsIn.nil {f : G → Act} {F : G → (Nat → Bool) → World → Prop} {n : Nat} (h : ops.size ≤ n) : StepsIn Fe n9 P ops Q f F n := fun i o hn ho => by
  have := (Array.getElem?_eq_some_iff.1 ho).1; omega
theorem StepsIn.cons {f : G → Act} {F : G → (Nat → Bool) → World → Prop} {n : Nat} {o : Oper} (ho : ops[n]? = some o)
    (h : ∀ g L w, L n = false → (∀ k, bindsOn .any o k = true → L k = true) → Closed .any ops L → F g L w → StepIn Fe n9 P ops Q f F n o g L w)
    (hs : StepsIn Fe n9 P ops Q f F (n + 1)) : StepsIn Fe n9 P ops Q f F n := fun i p hn hp => by
  by_cases e : i = n
  · subst e; rw [ho] at hp; obtain rfl := Option.some.inj hp; exact h
  · exact hs i p (by omega) hp
theorem StepIn.go {f : G → Act} {F : G → (Nat → Bool) → World → Prop} {i : Nat} {o : Oper} {g : G} {L : Nat → Bool} {w : World} (hw : Region.wanted o (yielded ops (f g).tmps) = true)
    (h : ∀ K : Act → World → Prop, (∀ g' w', F g' (add L i) w' → K (f g') w') → o.wpIn Fe n P (f g) w K Q) : StepIn Fe n P ops Q f F i o g L w := by
  unfold StepIn; rw [if_pos hw]; exact h _ (fun g' w' hF => ⟨g', rfl, hF⟩)
theorem StepIn.struck {f : G → Act} {F : G → (Nat → Bool) → World → Prop} {i : Nat} {o : Oper} {g : G} {L : Nat → Bool} {w : World} (hw : Region.wanted o (yielded ops (f g).tmps) = false)
    (h : (∀ fn, o.about P w (f g).eval = some fn → Fe.fn fn) ∧ ∃ g', f g' = (f g).put o.dst undef ∧ F g' (add L i) w) : StepIn Fe n P ops Q f F i o g L w := by
  unfold StepIn; rw [if_neg (by rw [hw]; simp)]; exact h
theorem region_earlyIn (E : List Nat) {id : Nat} {a : Act} {w : World} (vs : G → List Value) (F : G → (Nat → Bool) → World → Prop) (g : G) {f : G → Act} (hf : ∀ g, fill ops (vs g) a = f g)
    (hm : P.follows .mixedOrders = true) (hk : okU .any E ops = true) (hd : noDefers ops = true) (hE : ∀ t ∈ E, a.tmps[t]? = (f g).tmps[t]?)
    (hF : F g (fun _ => false) w.drew) (steps : StepsIn Fe n P ops (NoPanic Q) f F 0)
    (fin : ∀ g L w, (∀ i, i < ops.size → L i = true) → F g L w → Q .normal (f g) w) : (Code.region id ops true).wpIn Fe n P Q a w := by
  refine Code.wpIn_mono NoPanic.imp (wpIn_region_any hm ?_)
  have e : lst (Array.replicate ops.size false) = fun _ => false := by
    funext j; unfold lst; by_cases h : j < ops.size <;> simp [h]
  refine region_invIn hk hd (fun _ _ _ _ h => h) (fun i o ho g L w hL hr hc hF => steps i o (Nat.zero_le _) ho g L w hL (binds_all.1 hr) hc hF) fin _ _ _ _ (by simp) ?_
    ⟨g, by rw [e]; exact Agree.early (by rw [← hf]; exact fill_agree _ _ _) hE, by rw [e]; exact ⟨fun i o ho h => (by cases h), hF⟩⟩
  unfold left
  exact Nat.le_trans (List.length_filter_le _ _) (by simp)
end
end Go.Proofs.Ytdploccpobpjjaa
