/- The text of a side, and what the reference says of it. -/
import Derived.Test.YtngonghgkeobhaaDg
namespace Go.Proofs.Ytngonghgkeobhaa
open Go.RowKit Go.Shelf
set_option linter.unusedVariables false
set_option linter.unusedSimpArgs false

/-- The text of a side of d vertices. -/
def TX (S d : Nat) : ByteArray := ⟨(txt S d).toArray⟩
theorem TX_list (S d : Nat) : (TX S d).data.toList = txt S d := rfl
theorem TX_size (S d : Nat) : (TX S d).size = d := by
  have : (TX S d).data.toList.length = d := by rw [TX_list, txt_length]
  simpa using this
theorem chT_ok (S k : Nat) : okC (chT S k) = true := by unfold chT; split <;> decide
theorem TX_ok (S d : Nat) : (TX S d).data.toList.all okC = true := by
  rw [TX_list]
  refine List.all_eq_true.2 fun x hx => ?_
  obtain ⟨k, _, rfl⟩ := List.mem_map.1 hx
  exact chT_ok S k
theorem TX_at (S d k : Nat) (h : k < d) : (TX S d).data.toList[k]? = some (chT S k) := by rw [TX_list]; exact txt_at S d k h
theorem TX_get (S d k : Nat) (h : k < d) (h' : k < (TX S d).size) : (TX S d)[k] = chT S k := by
  have e : (TX S d).data.toList[k]? = some (TX S d)[k] := by rw [Array.getElem?_toList]; exact Array.getElem?_eq_getElem h'
  rw [TX_at S d k h] at e
  exact (Option.some.inj e).symm
theorem rdS_TX (S d : Nat) (hd : d ≤ 12) (u : Nat) (hu : u < 12) : hs (rdS (TX S d).data.toList d) u = (decide (u < d) && hs S u) := by
  rw [hs_rdS _ d hd u hu]
  by_cases h : u < d
  · rw [TX_at S d u h]
    unfold chT
    cases hs S u <;> simp [h]
  · simp [h]
theorem bytes_ext {a b : ByteArray} (h : a.data.toList = b.data.toList) : a = b := by
  cases a; cases b
  simp only at h
  congr 1
  exact Array.toList_inj.1 h
theorem side_TX (s : ByteArray) (d : Nat) (hd : d ≤ 12) (hs1 : s.size = d) (hs2 : s.data.toList.all okC = true) : s = TX (rdS s.data.toList d) d := by
  apply bytes_ext
  rw [TX_list]
  apply List.ext_getElem
  · rw [txt_length]; simpa using hs1
  · intro k h1 h2
    have hk : k < d := by rw [txt_length] at h2; exact h2
    have e1 : s.data.toList[k]? = some s.data.toList[k] := List.getElem?_eq_getElem h1
    have e2 : (txt (rdS s.data.toList d) d)[k]? = some (txt (rdS s.data.toList d) d)[k] := List.getElem?_eq_getElem h2
    rw [txt_at _ d k hk, Option.some.injEq] at e2
    rw [← e2]
    have ho : s.data.toList[k] = 48 ∨ s.data.toList[k] = 49 := by
      have := List.all_eq_true.1 hs2 _ (List.mem_of_getElem? e1)
      simpa [okC] using this
    unfold chT
    rw [hs_rdS _ d hd k (by omega), e1]
    rcases ho with h | h <;> rw [h] <;> simp [hk]
theorem txt_congr (S S' d : Nat) (h : ∀ u, u < d → hs S u = hs S' u) : txt S d = txt S' d := by
  unfold txt
  apply List.map_congr_left
  intro k hk
  unfold chT
  rw [h k (by simpa using hk)]
theorem TX_congr (S S' d : Nat) (h : ∀ u, u < d → hs S u = hs S' u) : TX S d = TX S' d := by unfold TX; rw [txt_congr S S' d h]
theorem hs_of_TX (S S' d : Nat) (h : TX S d = TX S' d) (u : Nat) (hu : u < d) : hs S u = hs S' u := by
  have h1 := TX_at S d u hu
  rw [h, TX_at S' d u hu] at h1
  have h2 := Option.some.inj h1
  unfold chT at h2
  cases h3 : hs S u <;> cases h4 : hs S' u <;> rw [h3, h4] at h2 <;> simp_all
theorem flipS_TX (S d i : Nat) (hd : d ≤ 12) (h : i < d) (h' : i < (TX S d).size) : flipS (TX S d) i (if (TX S d)[i] = 48 then ⟨#[49]⟩ else ⟨#[48]⟩) = TX (flp S i) d := by
  rw [TX_get S d i h]
  have e : (if chT S i = 48 then (⟨#[49]⟩ : ByteArray) else ⟨#[48]⟩) = ⟨#[chT (flp S i) i]⟩ := by
    unfold chT
    rw [hs_flp S i i (by omega) (by omega), if_pos rfl]
    cases hs S i <;> simp
  rw [e]
  apply bytes_ext
  rw [flipS_list _ _ h', TX_list, TX_list]
  apply List.ext_getElem?
  intro k
  rw [List.getElem?_set]
  by_cases hki : i = k
  · subst hki
    rw [if_pos rfl, if_pos (by rw [txt_length]; exact h), txt_at _ d i h]
  · rw [if_neg hki]
    by_cases hk : k < d
    · rw [txt_at S d k hk, txt_at _ d k hk]
      have hh := hs_flp S i k (by omega) (by omega)
      rw [if_neg (fun e => hki e.symm)] at hh
      unfold chT
      rw [hh]
    · rw [List.getElem?_eq_none (by rw [txt_length]; omega), List.getElem?_eq_none (by rw [txt_length]; omega)]
/-- Edges below d look at the vertices below d alone. -/
theorem valL_below (S S' d : Nat) (l : List Ed) (hl : below d l) (h : ∀ u, u < d → hs S u = hs S' u) : valL S l = valL S' l := by
  have key : ∀ k, k ≤ l.length → valL S (l.take k) = valL S' (l.take k) := by
    intro k
    induction k with
    | zero => intro _; rfl
    | succ k ih =>
      intro hk
      have hx : l[k]? = some l[k] := List.getElem?_eq_getElem (by omega)
      obtain ⟨a1, a2, a3, a4⟩ := hl _ (List.mem_of_getElem? hx)
      rw [take_at l k _ hx, valL_snoc, valL_snoc, ih (by omega)]
      unfold wgt
      rw [h _ (by omega), h _ (by omega)]
  have := key l.length (Nat.le_refl _)
  rwa [List.take_length] at this
theorem hs_flp_congr (S S' d i : Nat) (hd : d ≤ 12) (hi : i < 12) (h : ∀ u, u < d → hs S u = hs S' u) (u : Nat) (hu : u < d) : hs (flp S i) u = hs (flp S' i) u := by
  rw [hs_flp S i u hi (by omega), hs_flp S' i u hi (by omega), h u hu]
theorem dgn_below (S S' d i : Nat) (hd : d ≤ 12) (hi : i < 12) (l : List Ed) (hl : below d l) (h : ∀ u, u < d → hs S u = hs S' u) : dgn l S i = dgn l S' i := by
  unfold dgn
  rw [valL_below S S' d l hl h, valL_below (flp S i) (flp S' i) d l hl (hs_flp_congr S S' d i hd hi h)]
/-- A vertex that the graph does not have changes nothing. -/
theorem dgn_out (S d i : Nat) (hd : d ≤ 12) (h1 : d ≤ i) (h2 : i < 12) (l : List Ed) (hl : below d l) : dgn l S i = 0 := by
  unfold dgn
  rw [valL_below (flp S i) S d l hl (fun u hu => by rw [hs_flp S i u h2 (by omega), if_neg (by omega)])]
  omega
theorem nth_dgn (S i : Nat) (hi : i < 12) (l : List Ed) (hT : edgesT l) : nth (gnL S l) i = dgn l S i := by
  have e := val_flp S i hi l hT
  unfold dgn; omega
theorem rdTX_eq (S d : Nat) (hd : d ≤ 12) (u : Nat) (hu : u < d) : hs (rdS (TX S d).data.toList d) u = hs S u := by
  rw [rdS_TX S d hd u (by omega)]; simp [hu]
theorem rvalue_T (v : Value) (l : List Ed) (S d : Nat) (hd : d ≤ 12) (hl : edgesOk l) (hbl : below d l) (w : World) (hv : RdE w v l) :
    Calls Try.prog 24 #[v, .string (TX S d)] w fun e w' => e = .returned (.int .i64 (valL S l)) ∧ ∃ m, w' = w.drewN m := by
  have := rvalue_c v l (TX S d) hl (by rw [TX_size]; exact hbl) (by rw [TX_size]; exact hd) (TX_ok S d) w hv
  rw [TX_size, valL_below _ S d l hbl (rdTX_eq S d hd)] at this
  exact this
theorem rflip_T (S d i : Nat) (hd : d ≤ 12) (hi : i < d) (w : World) :
    Calls Try.prog 37 #[.string (TX S d), .int .i64 i] w fun e w' => e = .returned (.string (TX (flp S i) d)) ∧ ∃ m, w' = w.drewN m := by
  have h' : i < (TX S d).size := by rw [TX_size]; exact hi
  have := rflip_c (TX S d) i h' (by rw [TX_size]; exact hd) w
  rw [show (TX S d).extract 0 i ++ (if (TX S d)[i] = 48 then (⟨#[49]⟩ : ByteArray) else ⟨#[48]⟩) ++ (TX S d).extract (i + 1) (TX S d).size = TX (flp S i) d from flipS_TX S d i hd hi h'] at this
  exact this
end Go.Proofs.Ytngonghgkeobhaa
