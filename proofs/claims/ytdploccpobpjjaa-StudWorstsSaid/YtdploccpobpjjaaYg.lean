/- A map from steps to numbers. -/
import Derived.Test.YtdploccpobpjjaaSb
import Derived.Maps.Own
import Derived.Maps.Views
import Derived.Maps.Keyed
import Derived.WideKeyEntry
import Derived.DeepKeys4
namespace Go.Proofs.Ytdploccpobpjjaa
open Go.RowKit Go.Shelf Go.Maps Go.WideShapes Go.ChangeMaps
set_option linter.unusedVariables false
set_option linter.unusedSimpArgs false

theorem laidOutS : laidOutB Try.prog = true := by kernel_rfl
theorem wideSt : (match Try.prog.underlying 52 with | some (.array _ _) | some (.struct _) => true | _ => false) = true := by rw [Try.underlying52]
theorem kSt0 : WideMaps.KeyLaw Try.prog 52 := deep_law_laid laidOutS (m := 2) (by omega) (of_decide_eq_true (by kernel_rfl)) (by kernel_rfl) wideSt
theorem kSt : Keyed Try.prog 52 := Keyed.of_law kSt0
/-- The key of a step. -/
def stK (u v : Int) : Lit := .string (keyBytes [.int .i64 u, .int .i64 v])
theorem keyOf_step {u v : Int} (wu : (Lit.int .i64 u).wf = true) (wv : (Lit.int .i64 v).wf = true) : keyOf Try.prog 52 (.agg #[.int .i64 u, .int .i64 v]) = some (stK u v) := by
  unfold keyOf
  simp only [Try.underlying52]
  have hk : Try.prog.keyType 52 = true := by kernel_rfl
  have hf : (Value.agg #[.int .i64 u, .int .i64 v]).formed Try.prog 52 = true := by kernel_rfl
  rw [if_pos (by rw [hk, hf]; rfl)]
  have : Try.prog.keyLits (Try.prog.types.size + 1) 52 (Value.agg #[.int .i64 u, .int .i64 v]).cells.toList = some [.int .i64 u, .int .i64 v] := by
    obtain ⟨m, hm⟩ : ∃ m, Try.prog.types.size = m + 1 := ⟨Try.prog.types.size - 1, by have : 0 < Try.prog.types.size := of_decide_eq_true (by kernel_rfl); omega⟩
    have hc : Try.prog.cellsOf 52 = 2 := by kernel_rfl
    have hi : Try.prog.cellsOf 3 = 1 := by kernel_rfl
    rw [hm]
    unfold Program.keyLits
    simp only [Try.underlying52, Value.cells]
    simp [hc, hi, Program.keyLits, Try.underlying3, wu, wv]
  rw [this]
  rfl
theorem stK_inj {u v u' v' : Int} (wu : (Lit.int .i64 u).wf = true) (wv : (Lit.int .i64 v).wf = true) (wu' : (Lit.int .i64 u').wf = true) (wv' : (Lit.int .i64 v').wf = true) (h : stK u v = stK u' v') : u = u' ∧ v = v' := by
  have h1 := keyOf_step wu wv
  rw [h] at h1
  have := kSt.inj h1 (keyOf_step wu' wv')
  simpa using this
/-- The map counts. -/
def CntD (D : DataW Unit) (f : Int → Int → Nat) : Prop := IsMap D ∧ ∀ u v, (Lit.int .i64 u).wf = true → (Lit.int .i64 v).wf = true → D.atKey (stK u v) (.lit (.int .i64 0)) = .lit (.int .i64 (f u v : Int))
theorem CntD.nil : CntD (.map []) (fun _ _ => 0) := ⟨isMap_empty, fun _ _ _ _ => rfl⟩
theorem CntD.put {D : DataW Unit} {f : Int → Int → Nat} (h : CntD D f) {u v : Int} (wu : (Lit.int .i64 u).wf = true) (wv : (Lit.int .i64 v).wf = true) : CntD (D.put (stK u v) (.lit (.int .i64 ((f u v : Int) + 1)))) (fun a b => f a b + if a = u ∧ b = v then 1 else 0) := by
  refine ⟨h.1.put _ _, fun a b wa wb => ?_⟩
  by_cases e : a = u ∧ b = v
  · obtain ⟨rfl, rfl⟩ := e
    rw [atKey_put_same h.1 (by trivial)]
    simp
  · rw [atKey_put_other (fun hk => e (stK_inj wa wb wu wv hk)), h.2 a b wa wb]
    simp [e]
theorem map_holds {K : Nat → Prop} {H : Type} {P : Program} {k : TypeId} {R : Value → Option (DataW H × List MemPlace)} {w w' : World} {b n : Nat} {D : DataW H} (h : w.ownsMap P k R b n D) (hh : Holds K w w') (hk : K b) : w'.ownsMap P k R b n D := by
  have hl := h.lt
  obtain ⟨es, clock, hb, r⟩ := h
  exact ⟨es, clock, (hh.block b hl hk).trans hb, r⟩
/-- The map of the counts, in the block b. -/
def CMap (w : World) (b n : Nat) (f : Int → Int → Nat) : Prop := ∃ D, w.ownsMap Try.prog 52 (plainElem (H := Unit) Try.prog 3) b n D ∧ CntD D f
theorem CMap.holds {K : Nat → Prop} {w w' : World} {b n : Nat} {f : Int → Int → Nat} (h : CMap w b n f) (hh : Holds K w w') (hk : K b) : CMap w' b n f := by
  obtain ⟨D, h1, h2⟩ := h
  exact ⟨D, map_holds h1 hh hk, h2⟩
theorem CMap.lt {w : World} {b n : Nat} {f : Int → Int → Nat} (h : CMap w b n f) : b < w.heap.size := by obtain ⟨D, h1, _⟩ := h; exact h1.lt
theorem zeroI (w : World) : (zeroValue 3).run Try.prog w = .ok (.int .i64 0) w := by kernel_rfl
theorem CMap.look {w : World} {b n : Nat} {f : Int → Int → Nat} (h : CMap w b n f) {u v : Int} (wu : (Lit.int .i64 u).wf = true) (wv : (Lit.int .i64 v).wf = true) :
    (Instr.lookup 56 (.map (some b)) (.agg #[.int .i64 u, .int .i64 v]) false).run Try.prog w = .ok (.int .i64 (f u v : Int)) w := by
  obtain ⟨D, h1, h2⟩ := h
  obtain ⟨c, hrun, hat, _⟩ := h1.lookup_int kSt Try.underlying56 Try.underlying3 (zeroI w) (keyOf_step wu wv)
  rw [h2.2 u v wu wv] at hat
  injection hat with hat
  injection hat with _ hat
  rw [hrun, ← hat]
section
variable {P : Program} {w : World} {t k e : TypeId} {R : Value → Option (DataW Unit × List MemPlace)} {b : Nat} {es : Array MapEntry} {clock : Nat}
/-- What the entry's making leaves. -/
theorem entry_made (K : WideMaps.KeyLaw P k) (ht : P.underlying t = some (.map k e)) {z : Value} (hz : ∀ u : World, (zeroValue e).run P u = .ok z u) (hb : w.heap[b]? = some (.map es clock)) (F : Go.WideElems.Fit P k R es clock)
    {key : Value} {kl : Lit} (hkey : keyOf P k key = some kl) :
    ((Instr.lookup t (.map (some b)) key false).run P w = .ok z w ∧ ∃ v0 : Value, ∃ o : Obj, (Instr.mapEntry t (.map (some b)) key).run P w = .ok (.tuple #[v0, goInt clock]) (setBlock w b o) ∧ (Instr.mapUpdate t (.map (some b)) key z).run P w = .ok () (setBlock w b o)) ∨
    (∃ v1 : Value, (Instr.mapEntry t (.map (some b)) key).run P w = .ok v1 (setBlock w b (.map es clock))) := by
  rcases K.find w hkey es.toList F.keys with ⟨h1, h2⟩ | ⟨j, e0, h1, h2, h3⟩
  · refine .inl ⟨?_, z, .map (es.push ⟨key, z, clock⟩) (clock + 1), ?_, ?_⟩
    · simp [Instr.lookup, run_underlying ht, MapKept.run_getObj_map hb, K.check w es.isEmpty hkey, h1, hz, Result.andThen]
    · simp [Instr.mapEntry, run_underlying ht, MapKept.run_getObj_map hb, K.check w false hkey, h1, hz, MapKept.run_setObj_map _ hb, Result.andThen, setBlock]
    · simp [Instr.mapUpdate, run_underlying ht, MapKept.run_getObj_map hb, K.check w false hkey, h1, MapKept.run_setObj_map _ hb, Result.andThen, setBlock]
  · have hj : es[j]? = some e0 := by simpa using h2
    have hsame : es.modify j (fun e => { e with key := key }) = es := by
      apply Array.ext'
      rw [Array.toList_modify, modify_eq_set _ _ _ _ h2]
      have : ({ e0 with key := key } : MapEntry) = e0 := by rw [← h3]
      rw [this]
      exact Go.WideElems.set_self _ _ _ h2
    exact .inr ⟨_, by simp [Instr.mapEntry, run_underlying ht, MapKept.run_getObj_map hb, K.check w false hkey, h1, hj, h3, K.stays w hkey, hsame, MapKept.run_setObj_map _ hb, Result.andThen, setBlock]; rfl⟩
end
theorem CMap.entry {w : World} {b n : Nat} {f : Int → Int → Nat} (h : CMap w b n f) (hn : n < maxLen) {u v : Int} (wu : (Lit.int .i64 u).wf = true) (wv : (Lit.int .i64 v).wf = true) (wx : (Lit.int .i64 ((f u v : Int) + 1)).wf = true) :
    ∃ (v0 : Value) (st : Nat) (es1 : Array MapEntry) (c1 : Nat), (Instr.mapEntry 56 (.map (some b)) (.agg #[.int .i64 u, .int .i64 v])).run Try.prog w = .ok (.tuple #[v0, goInt st]) (setBlock w b (.map es1 c1)) ∧ CMap (setBlock w b (.map es1 c1)) b (n + 1) f ∧
      ∀ w2 : World, w2.heap[b]? = some (.map es1 c1) → ∃ es' c', (Instr.entryStore 56 (.map (some b)) (goInt st) (.int .i64 ((f u v : Int) + 1))).run Try.prog w2 = .ok () (setBlock w2 b (.map es' c')) ∧ CMap (setBlock w2 b (.map es' c')) b (n + 1) (fun a d => f a d + if a = u ∧ d = v then 1 else 0) := by
  obtain ⟨D, h1, h2⟩ := h
  obtain ⟨w', hup, hown', -⟩ := h1.update kSt Try.underlying56 hn (keyOf_step wu wv) (plainElem_int (H := Unit) Try.underlying3 wx)
  obtain ⟨es, clock, hb, F, hs, hD⟩ := id h1
  obtain ⟨v0, st, es1, c1, he, -, hst⟩ := Go.WideElems.entry_then_store kSt0 Try.underlying56 zeroI hb F (keyOf_step wu wv)
  refine ⟨v0, st, es1, c1, he, ?_, fun w2 hw2 => ?_⟩
  · rcases entry_made kSt0 Try.underlying56 zeroI hb F (keyOf_step wu wv) with ⟨hl, v1, o, hm, hu⟩ | ⟨v1, hm⟩
    · have h0 := CMap.look ⟨D, h1, h2⟩ wu wv
      rw [hl] at h0
      have hf0 : f u v = 0 := by
        have h1 := (Result.ok.inj h0).1
        have h2 := (Value.int.inj h1).2
        omega
      rw [he] at hm
      have ho : setBlock w b (.map es1 c1) = setBlock w b o := by injection hm
      rw [ho]
      obtain ⟨w3, hup3, hown3, -⟩ := h1.update kSt Try.underlying56 hn (keyOf_step wu wv) (plainElem_int (H := Unit) (a := 0) Try.underlying3 (WalkArith.wf_i64 (by omega)))
      rw [hu] at hup3
      obtain rfl : setBlock w b o = w3 := by injection hup3
      refine ⟨_, hown3, h2.1.put _ _, fun a d wa wd => ?_⟩
      by_cases e : a = u ∧ d = v
      · obtain ⟨rfl, rfl⟩ := e
        rw [atKey_put_same h2.1 (by trivial), hf0]; rfl
      · rw [atKey_put_other (fun hk => e (stK_inj wa wd wu wv hk)), h2.2 a d wa wd]
    · rw [he] at hm
      have ho : setBlock w b (.map es1 c1) = setBlock w b (.map es clock) := by injection hm
      rw [ho]
      exact ⟨D, ⟨es, clock, heap_setBlock_same hb _, F, by omega, hD⟩, h2⟩
  obtain ⟨es', c', hrun, hup2⟩ := hst w2 (.int .i64 ((f u v : Int) + 1)) hw2
  refine ⟨es', c', hrun, D.put (stK u v) (.lit (.int .i64 ((f u v : Int) + 1))), ?_, h2.put wu wv⟩
  rw [hup] at hup2
  obtain rfl : w' = setBlock w b (.map es' c') := by injection hup2
  obtain ⟨es2, c2, hb2, r⟩ := hown'
  rw [heap_setBlock_same hb] at hb2
  injection hb2 with hb2
  injection hb2 with e1 e2
  subst e1; subst e2
  exact ⟨es', c', heap_setBlock_same hw2 _, r⟩
end Go.Proofs.Ytdploccpobpjjaa
