/- What an argument that is a slice of edges holds. -/
import Derived.Test.YtngonghgkeobhaaDh
import Derived.Deep.Slices
namespace Go.Proofs.Ytngonghgkeobhaa
open Go.RowKit Go.ChangeShapes Go.WideShapes Go.Deep
set_option linter.unusedVariables false
set_option linter.unusedSimpArgs false

theorem arg_edges {H : Type} {enc : TypeId × Value → H} {P : Program} {W : World} {held : Bool} {t e : TypeId} {f0 f1 f2 : Field} {n : Nat} {v : Value} {y : DataW H × List MemPlace} (ht : P.underlying t = some (.slice e)) (he : P.underlying e = some (.struct #[f0, f1, f2]))
    (ce : P.cellsOf e = 3) (o0 : f0.offset = 0) (o1 : f1.offset = 1) (o2 : f2.offset = 2) (c0 : P.cellsOf f0.type = 1) (c1 : P.cellsOf f1.type = 1) (c2 : P.cellsOf f2.type = 1)
    (u0 : P.underlying f0.type = some (.int .i64)) (u1 : P.underlying f1.type = some (.int .i64)) (u2 : P.underlying f2.type = some (.int .i64))
    (h : DataW.trod enc P W 0 (fun _ => true) held n t [v] = some y) : ∃ l, RdE W v l ∧ Cap v := by
  rcases open_slice ht h with ⟨hcs, _⟩ | ⟨a, len, cap, m, n', D, Pl, hcs, _, hl, hm, hmm, _, hx⟩
  · simp at hcs; subst hcs
    exact ⟨[], ⟨none, 0, rfl, by unfold maxLen; simp, fun k x hk => by cases hk⟩, Nat.le_refl _⟩
  · simp at hcs; subst hcs
    have hlm : len ≤ m := by rw [hmm]; split <;> omega
    have each : ∀ i, i < len → ∃ x : Ed, W.cell? (a.add (i * 3)) = some (.int .i64 x.1) ∧ W.cell? ((a.add (i * 3)).add 1) = some (.int .i64 x.2.1) ∧ W.cell? ((a.add (i * 3)).add 2) = some (.int .i64 x.2.2) := by
      intro i hi
      obtain ⟨cs', h1, h2⟩ := hx i (by omega)
      rw [ce] at h1
      obtain ⟨_, hlen, hcell⟩ := World.cells?_some h1
      obtain ⟨xs, k, _, _, _, hxl, hf⟩ := DataW.trod_struct he h2
      match cs', hlen with
      | [z0, z1, z2], _ =>
        have g0 := hf 0 f0 rfl
        have g1 := hf 1 f1 rfl
        have g2 := hf 2 f2 rfl
        have hx3 : xs.length = 3 := by simpa using hxl
        rw [o0, c0, List.getElem?_eq_getElem (by omega)] at g0
        rw [o1, c1, List.getElem?_eq_getElem (by omega)] at g1
        rw [o2, c2, List.getElem?_eq_getElem (by omega)] at g2
        obtain ⟨n0, e0, _⟩ := DataW.trod_int u0 g0
        obtain ⟨n1, e1, _⟩ := DataW.trod_int u1 g1
        obtain ⟨n2, e2, _⟩ := DataW.trod_int u2 g2
        have q0 : z0 = .int .i64 n0 := by simpa using e0
        have q1 : z1 = .int .i64 n1 := by simpa using e1
        have q2 : z2 = .int .i64 n2 := by simpa using e2
        subst q0; subst q1; subst q2
        have w0 := hcell 0 (by omega)
        have w1 := hcell 1 (by omega)
        have w2 := hcell 2 (by omega)
        rw [add_add, Nat.add_zero] at w0
        exact ⟨(n0, n1, n2), w0, w1, w2⟩
    obtain ⟨g, hg⟩ := choose_lt each
    refine ⟨(List.range len).map g, ⟨some a, cap, by rw [List.length_map, List.length_range], by rw [List.length_map, List.length_range]; omega, fun k x hk => ?_⟩, hl⟩
    have hkl : k < len := by have := (List.getElem?_eq_some_iff.1 hk).1; simpa using this
    have hs : a.spot = none := by
      have := (hg 0 (by omega)).1
      rw [show a.add (0 * 3) = a from by simp [Addr.add]] at this
      exact spot_none this
    have hgx : x = g k := by
      rw [List.getElem?_map, List.getElem?_range hkl] at hk
      exact (Option.some.inj hk).symm
    obtain ⟨p0, p1, p2⟩ := hg k hkl
    rw [add_add] at p1 p2
    rw [add_eq a hs] at p0 p1 p2
    rw [hgx]
    exact ⟨a.block, a.off, by rw [← plain_eq a hs], p0, p1, p2⟩
end Go.Proofs.Ytngonghgkeobhaa
