/- The law on rules that forbid nothing. -/
import Derived.Test.YtikedhkibdeheaaNe
import Derived.Test.YtikedhkibdeheaaNb
import Derived.Test.YtikedhkibdeheaaMa
import Derived.Test.YtikedhkibdeheaaHd
import Derived.Test.YtikedhkibdeheaaKd
namespace Go.Proofs.Ytikedhkibdeheaa
open Go.RowKit
set_option linter.unusedVariables false

/-! ### A word and its inverse send every sheet to itself -/
theorem stp_back (t : List (List Int)) (h : windB t = true) (s : Int) (hs : 0 ≤ s ∧ s < shN t) (c : UInt8) (hc : okL t.length c = true) : stp (windW t) (stp (windW t) s c) (opp c) = s := by
  obtain ⟨h12, _⟩ := windB_parts t h
  obtain ⟨s, rfl⟩ := Int.eq_ofNat_of_zero_le hs.1
  have hs' : s < shN t := by have := hs.2; omega
  have hsn : ((s : Int)).toNat = s := by omega
  have front : ∀ (k : Nat) (l : List Int), t[k]? = some l → 0 ≤ nth l s ∧ nth (windW t) (2 + 10 * k + s) = nth l s ∧ nth (windW t) (2 + 10 * k + 5 + (nth l s).toNat) = s := fun k l hl => by
    obtain ⟨q1, _, _, _, q5⟩ := col_of t h k l hl
    have := windW_at t h k l hl s (by omega)
    exact ⟨(q5 s (by omega)).1, this⟩
  have back : ∀ (k : Nat) (l : List Int), t[k]? = some l → ∃ j : Nat, nth (windW t) (2 + 10 * k + 5 + s) = j ∧ nth (windW t) (2 + 10 * k + j) = s := fun k l hl => by
    obtain ⟨q1, q2, q3, _, q5⟩ := col_of t h k l hl
    obtain ⟨j, hj, e⟩ := List.mem_iff_getElem.1 (col_all (shN t) l q1 q2 q3 s hs')
    have he : nth l j = s := by simpa [nth, List.getElem?_eq_getElem hj] using e
    have := windW_at t h k l hl j hj
    rw [he, hsn] at this
    exact ⟨j, this.2, this.1⟩
  have h0 : t[0]? = some t[0] := List.getElem?_eq_getElem (by omega)
  simp only [okL, decide_eq_true_eq] at hc
  rcases hc with rfl | rfl | ⟨h2, rfl | rfl⟩
  · obtain ⟨a0, a1, a2⟩ := front 0 _ h0
    have e1 : stp (windW t) s 97 = nth t[0] s := by rw [← a1]; unfold stp; rw [hsn]; rfl
    rw [e1]; exact a2
  · obtain ⟨j, a1, a2⟩ := back 0 _ h0
    have e1 : stp (windW t) s 65 = j := by rw [← a1]; unfold stp; rw [hsn]; rfl
    rw [e1]; exact a2
  · have h1 : t[1]? = some t[1] := List.getElem?_eq_getElem (by omega)
    obtain ⟨a0, a1, a2⟩ := front 1 _ h1
    have e1 : stp (windW t) s 98 = nth t[1] s := by rw [← a1]; unfold stp; rw [hsn]; rfl
    rw [e1]; exact a2
  · have h1 : t[1]? = some t[1] := List.getElem?_eq_getElem (by omega)
    obtain ⟨j, a1, a2⟩ := back 1 _ h1
    have e1 : stp (windW t) s 66 = j := by rw [← a1]; unfold stp; rw [hsn]; rfl
    rw [e1]; exact a2
theorem inv_cons (c : UInt8) (K : List UInt8) : inv (c :: K) = inv K ++ [opp c] := by simp [inv]
theorem snd_append (W : List Int) (s : Int) (a b : List UInt8) : snd W s (a ++ b) = snd W (snd W s a) b := by simp [snd]
theorem snd_back (t : List (List Int)) (h : windB t = true) : ∀ (K : List UInt8), K.all (okL t.length) = true → ∀ s : Int, 0 ≤ s ∧ s < shN t → snd (windW t) s (K ++ inv K) = s
  | [], _, s, _ => rfl
  | c :: K, hK, s, hs => by
    rw [List.all_cons, Bool.and_eq_true] at hK
    have h5 : (shN t : Int) ≤ 5 := by have := (windB_parts t h).2.2.1; omega
    have hin := stp_okd _ _ (windW_okd t h) h5 s c hs (okL_li _ c hK.1)
    have ih := snd_back t h K hK.2 (stp (windW t) s c) hin
    have e1 : (c :: K) ++ inv (c :: K) = [c] ++ ((K ++ inv K) ++ [opp c]) := by rw [inv_cons]; simp
    rw [e1, snd_append, snd_append]
    show stp (windW t) (snd (windW t) (stp (windW t) s c) (K ++ inv K)) (opp c) = s
    rw [ih]
    exact stp_back t h s hs c hK.1
theorem free_keeps (g d : Nat) (hg : g = 1 ∨ g = 2) (d1 : 1 ≤ d) (d5 : d ≤ 5) (K : List UInt8) (hK : K.all (okL g) = true) : (wins g d [⟨(K ++ inv K).toArray⟩]).length = (wins g d []).length := by
  rw [wins_filter]
  congr 1
  rw [List.filter_eq_self]
  intro x hx
  obtain ⟨t, hB, hl, hs, rfl, _⟩ := wins_tab g d hg d1 d5 [] x hx
  have hn1 := windW_nth1 t hB
  unfold keepsB
  rw [hn1, List.all_eq_true]
  intro r hr
  simp at hr; subst hr
  unfold krB
  rw [List.all_eq_true]
  intro s hsr
  rw [decide_eq_true_iff]
  have hsd : s < shN t := by simpa using hsr
  exact snd_back t hB K (by rw [hl]; exact hK) s ⟨by omega, by omega⟩
theorem opp_ok (g : Int) (K : List UInt8) (hK : K.all (okL g) = true) : (inv K).all (okL g) = true := by
  rw [List.all_eq_true] at hK ⊢
  intro x hx
  simp only [inv, List.mem_reverse, List.mem_map] at hx
  obtain ⟨y, hy, rfl⟩ := hx
  exact okL_opp g y (hK y hy)
theorem free_good (g : Nat) (hg : g = 1 ∨ g = 2) (d : Int) (hd : 1 ≤ d ∧ d ≤ 5) (K : List UInt8) (hK : K.all (okL g) = true) (hl : K.length ≤ 10) : goodB g d [⟨(K ++ inv K).toArray⟩] = true := by
  have h1 : lettersB g = true := by rcases hg with rfl | rfl <;> rfl
  have h2 : sheetsB d = true := by simp [sheetsB]; omega
  have h3 : wordB g (K ++ inv K) = true := by
    unfold wordB
    rw [Bool.and_eq_true, decide_eq_true_iff, List.all_append, hK, opp_ok g K hK]
    have hil : (inv K).length = K.length := by simp [inv]
    exact ⟨by rw [List.length_append, hil]; omega, rfl⟩
  simp only [goodB, groupB, h1, h2, List.all_cons, List.all_nil, h3, Bool.and_self, Bool.and_true, Bool.true_and, List.length_cons, List.length_nil]
  rfl

set_option maxHeartbeats 1000000 in
set_option maxRecDepth 100000 in
theorem rinv_c (s : ByteArray) (hl : s.data.toList.all (okL 2) = true) (hz : s.size ≤ 100000) (w : World) :
    Calls Try.prog 11 #[.string s] w fun e w' => e = .returned (.string ⟨(inv s.data.toList).toArray⟩) ∧ Keeps w w' := by
  obtain ⟨i0, hi, hz0, hz1, hz2⟩ := info_parts infoB
  go_enter Try.func11, Try.ntmps11
  go_wp2_with fail
  go_loopw [3, 4] (fun v i wr => ∃ m : Nat, m ≤ s.size ∧ i = .int .i64 ((m : Int) - 1) ∧ wr.ownsRow w.heap.size 5 1 v (inv (s.data.toList.drop m)).length (bytes (inv (s.data.toList.drop m))) ∧ Keeps w wr) (fun _ i _ => (intOf i + 1).toNat)
  case atStart => exact ⟨s.size, Nat.le_refl _, rfl, by rw [List.drop_of_length_le (by simp)]; exact World.ownsRow_nil _ _ _ _, Below.refl _ _⟩
  case round =>
    obtain ⟨m, hm, rfl, hown, hb⟩ := hrel
    cases m with
    | zero =>
      have hs := str_own hown
      go_wp2_with fail
      go_ret
      exact ⟨rfl, hb⟩
    | succ m =>
      have hlt : m < s.size := by omega
      have hc : okL 2 s[m] = true := List.all_eq_true.1 hl _ (Array.mem_toList_iff.2 (Array.getElem_mem (xs := s.data) (i := m) hlt))
      have Hinv := Lib.hid (inv_snoc s.data.toList m (by simpa using hlt))
      have hlen : (inv (s.data.toList.drop (m + 1))).length ≤ s.size := by simp [inv]
      have hws := hb.size
      have e1 : ((m + 1 : Nat) : Int) - 1 = m := by omega
      rw [e1]
      generalize inv (s.data.toList.drop (m + 1)) = L at *
      go_wp2_with (first | (go_at_call 34; refine (rinverse_c _ hc _).mono ?_; rintro e w2 ⟨rfl, rfl⟩) | (at_builtin; refine wpList_append_own _ rfl _ _ 63 rfl w.heap.size 5 i0 _ 1 1 Try.underlying63 hi hz0 hz1 hz2 rfl (by decide) _ L.length (bytes L) rfl (hown.alloc _) _ 1 1 [.int .u8 (opp s[m]).toNat] rfl rfl (new_cells _ _ _ _ (by simp)) (by simp [Value.oneCell']) (by unfold maxLen; omega) (by omega) (by simp; omega) ?_; intro v' w4 hown4 hgrow4 _))
      go_roundw
      case rel => exact ⟨m, by omega, by go_num, by rw [Hinv.out, List.length_append, bytes_append]; exact hown4, (Keeps.alloc hb _).grown hgrow4 (by simp; omega) (own_base hown)⟩
      case measure => simp [intOf]
theorem one_at {w : World} {b : Nat} {a : ByteArray} (h : At w b 9 #[.string a]) : RdS w (.slice (some ⟨b, 0, none⟩) 1 1) [a] := by
  refine ⟨some ⟨b, 0, none⟩, 1, rfl, by unfold maxLen; simp, fun k hk => ?_⟩
  have hk1 : k < 1 := hk
  obtain rfl : k = 0 := by omega
  exact ⟨b, 0, .string a, rfl, h.cell (0 + 0), a, rfl, rfl⟩
end Go.Proofs.Ytikedhkibdeheaa
