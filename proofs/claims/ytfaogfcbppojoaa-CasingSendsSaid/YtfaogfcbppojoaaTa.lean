/- The plain words of what results read as. Nothing is claimed here. -/
import Derived.Test.YtfaogfcbppojoaaRl
import Derived.Test.YtfaogfcbppojoaaCm
namespace Go.Proofs.Ytfaogfcbppojoaa
open Go.RowKit
/-- As Rd; all cells lie in blocks of Q. -/
def RdB (Q : Nat → Prop) (w : World) (v : Value) (n : Nat) (P : Nat → Value → Prop) : Prop :=
  ∃ A c, v = .slice A n c ∧ n ≤ maxLen ∧ ∀ k, k < n → ∃ b off u, A = some ⟨b, off, none⟩ ∧ Q b ∧ w.cell? ⟨b, off + k, none⟩ = some u ∧ P k u
def RdIB (Q : Nat → Prop) (w : World) (v : Value) (l : List Int) : Prop := RdB Q w v l.length fun k u => u = .int .i64 (nth l k)
def RdTB (Q : Nat → Prop) (w : World) (v : Value) (t : List (List Int)) : Prop := RdB Q w v t.length fun k u => ∃ l, t[k]? = some l ∧ RdIB Q w u l
def RdSB (Q : Nat → Prop) (w : World) (v : Value) (l : List ByteArray) : Prop := RdB Q w v l.length fun k u => ∃ s, l[k]? = some s ∧ u = .string s
theorem RdB.rd {Q : Nat → Prop} {w : World} {v : Value} {n : Nat} {P P' : Nat → Value → Prop} (h : RdB Q w v n P) (hp : ∀ k u, P k u → P' k u) : Rd w v n P' := by
  obtain ⟨A, c, rfl, hm, hc⟩ := h
  refine ⟨A, c, rfl, hm, fun k hk => ?_⟩
  obtain ⟨b, off, u, h1, _, h3, h4⟩ := hc k hk
  exact ⟨b, off, u, h1, h3, hp k u h4⟩
theorem RdIB.rd {Q : Nat → Prop} {w : World} {v : Value} {l : List Int} (h : RdIB Q w v l) : RdI w v l := RdB.rd h fun _ _ h => h
theorem RdTB.rd {Q : Nat → Prop} {w : World} {v : Value} {t : List (List Int)} (h : RdTB Q w v t) : RdT w v t := RdB.rd h fun _ _ ⟨l, h1, h2⟩ => ⟨l, h1, h2.rd⟩
theorem RdSB.rd {Q : Nat → Prop} {w : World} {v : Value} {l : List ByteArray} (h : RdSB Q w v l) : RdS w v l := RdB.rd h fun _ _ h => h
theorem RdB.to {Q Q' : Nat → Prop} {w w' : World} {v : Value} {n : Nat} {P P' : Nat → Value → Prop} {K : Nat → Prop} (h : RdB Q w v n P) (hh : Holds K w w') (hq : ∀ b, b < w.heap.size → Q b → K b ∧ Q' b) (hp : ∀ k u, P k u → P' k u) : RdB Q' w' v n P' := by
  obtain ⟨A, c, rfl, hm, hc⟩ := h
  refine ⟨A, c, rfl, hm, fun k hk => ?_⟩
  obtain ⟨b, off, u, h1, h2, h3, h4⟩ := hc k hk
  have hlt : b < w.heap.size := block_lt_of_cell h3
  exact ⟨b, off, u, h1, (hq b hlt h2).2, (World.cell?_of_block (hh.block b hlt (hq b hlt h2).1)).trans h3, hp k u h4⟩
theorem RdIB.to {Q Q' : Nat → Prop} {w w' : World} {v : Value} {l : List Int} {K : Nat → Prop} (h : RdIB Q w v l) (hh : Holds K w w') (hq : ∀ b, b < w.heap.size → Q b → K b ∧ Q' b) : RdIB Q' w' v l := RdB.to h hh hq fun _ _ h => h
theorem RdTB.to {Q Q' : Nat → Prop} {w w' : World} {v : Value} {t : List (List Int)} {K : Nat → Prop} (h : RdTB Q w v t) (hh : Holds K w w') (hq : ∀ b, b < w.heap.size → Q b → K b ∧ Q' b) : RdTB Q' w' v t :=
  RdB.to h hh hq fun _ _ ⟨l, h1, h2⟩ => ⟨l, h1, h2.to hh hq⟩
theorem RdSB.to {Q Q' : Nat → Prop} {w w' : World} {v : Value} {l : List ByteArray} {K : Nat → Prop} (h : RdSB Q w v l) (hh : Holds K w w') (hq : ∀ b, b < w.heap.size → Q b → K b ∧ Q' b) : RdSB Q' w' v l := RdB.to h hh hq fun _ _ h => h
/-- What a slice owns reads as it. -/
theorem own_ints {w : World} {base : Nat} {e : TypeId} {v : Value} {l : List Int} (h : w.ownsRow base e 1 v l.length (l.map (Value.int .i64))) (hm : l.length ≤ maxLen) : RdIB (fun r => base ≤ r) w v l := by
  rcases Nat.eq_zero_or_pos l.length with h0 | h0
  · rcases h.2 with ⟨rfl, _⟩ | ⟨g, cap, cur, rfl, _⟩
    · exact ⟨none, 0, by rw [h0], hm, fun k hk => by omega⟩
    · exact ⟨_, cap, rfl, hm, fun k hk => by omega⟩
  · obtain ⟨g, cap, rfl, hb, _, _, _, hc⟩ := own_form h h0
    exact ⟨_, cap, rfl, hm, fun k hk => ⟨g, 0, .int .i64 (nth l k), rfl, hb, by rw [Nat.zero_add]; exact hc k _ (by simp [nth, List.getElem?_eq_getElem hk]), rfl⟩⟩
/-- The columns of a winding. -/
def colW (W : List Int) (d gi : Nat) : List Int := (List.range d).map fun j => nth W (2 + 10 * gi + j)
def colsW (W : List Int) (g d : Nat) : List (List Int) := (List.range g).map (colW W d)
theorem colW_length (W : List Int) (d gi : Nat) : (colW W d gi).length = d := by simp [colW]
theorem colW_at (W : List Int) (d gi j : Nat) (h : j < d) : (colW W d gi)[j]? = some (nth W (2 + 10 * gi + j)) := by simp [colW, h]
theorem colsW_at (W : List Int) (g d gi : Nat) (h : gi < g) : (colsW W g d)[gi]? = some (colW W d gi) := by simp [colsW, h]
theorem colsW_length (W : List Int) (g d : Nat) : (colsW W g d).length = g := by simp [colsW]
theorem fill_row (us : List Value) (n k : Nat) (z u : Value) (hus : us.length = k) (hk : k < n) : ((us ++ List.replicate (n - k) z).toArray).setIfInBounds k u = (us ++ [u] ++ List.replicate (n - (k + 1)) z).toArray := by
  rw [List.setIfInBounds_toArray, List.set_append_right _ _ (by omega), hus, Nat.sub_self, show n - k = (n - (k + 1)) + 1 from by omega, List.replicate_succ, List.set_cons_zero]
  simp
theorem row_at (us : List Value) (n k : Nat) (z : Value) (hus : us.length = k) (hk : k < n) : ((us ++ List.replicate (n - k) z).toArray)[k]? = some z := by
  rw [List.getElem?_toArray, List.getElem?_append_right (by omega), hus, Nat.sub_self, show n - k = (n - (k + 1)) + 1 from by omega, List.replicate_succ]
  rfl
theorem own_holds {w w' : World} {base : Nat} {e : TypeId} {size : Nat} {v : Value} {n : Nat} {xs : List Value} {K : Nat → Prop} (h : w.ownsRow base e size v n xs) (hh : Holds K w w') (hk : ∀ b, v.ownBlock = some b → K b) : w'.ownsRow base e size v n xs := by
  refine ⟨h.1, ?_⟩
  rcases h.2 with hn | ⟨g, cap, cur, rfl, hbg, hg, r⟩
  · exact .inl hn
  · exact .inr ⟨g, cap, cur, rfl, hbg, (hh.block g (Array.getElem?_eq_some_iff.1 hg).1 (hk g rfl)).trans hg, r⟩
theorem own_list {w : World} {base : Nat} {e : TypeId} {v : Value} {n : Nat} {us : List Value} {P : Nat → Value → Prop} (h : w.ownsRow base e 1 v n us) (hm : n ≤ maxLen) (hp : ∀ i u, us[i]? = some u → P i u) : RdB (fun r => base ≤ r) w v n P := by
  rcases Nat.eq_zero_or_pos n with h0 | h0
  · subst h0
    rcases h.2 with ⟨rfl, _⟩ | ⟨g, cap, cur, rfl, _⟩
    · exact ⟨none, 0, rfl, hm, fun k hk => by omega⟩
    · exact ⟨_, cap, rfl, hm, fun k hk => by omega⟩
  · obtain ⟨g, cap, rfl, hb, _, _, _, hc⟩ := own_form h h0
    refine ⟨_, cap, rfl, hm, fun k hk => ?_⟩
    have hk' : k < us.length := by have := h.1; omega
    have hu := List.getElem?_eq_getElem hk'
    exact ⟨g, 0, us[k], rfl, hb, by rw [Nat.zero_add]; exact hc k _ hu, hp k _ hu⟩
/-- A slice of tables. -/
def RdLB (Q : Nat → Prop) (w : World) (v : Value) (ts : List (List (List Int))) : Prop := RdB Q w v ts.length fun k u => ∃ t, ts[k]? = some t ∧ RdTB Q w u t
end Go.Proofs.Ytfaogfcbppojoaa
