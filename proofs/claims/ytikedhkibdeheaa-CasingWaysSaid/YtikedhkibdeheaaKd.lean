/- The reference's step and Send. -/
import Derived.Test.YtikedhkibdeheaaKc
import Derived.Test.YtikedhkibdeheaaJa
namespace Go.Proofs.Ytikedhkibdeheaa
open Go.RowKit
set_option linter.unusedVariables false

theorem stp_okd (n : Int) (W : List Int) (hW : wokd n W) (hn : n ≤ 5) (s : Int) (c : UInt8) (hs : 0 ≤ s ∧ s < n) (hc : 0 ≤ li c) : 0 ≤ stp W s c ∧ stp W s c < n := by
  have := li_le c
  exact hW.2 _ (by omega) (by omega)
theorem snd_okd (n : Int) (W : List Int) (hW : wokd n W) (hn : n ≤ 5) (s : Int) (hs : 0 ≤ s ∧ s < n) : ∀ (l : List UInt8), (∀ c ∈ l, 0 ≤ li c) → 0 ≤ snd W s l ∧ snd W s l < n := by
  intro l
  induction l generalizing s with
  | nil => intro _; exact hs
  | cons c l ih => intro h; exact ih (stp W s c) (stp_okd n W hW hn s c hs (h c (by simp))) (fun x hx => h x (by simp [hx]))

set_option maxHeartbeats 1000000 in
theorem rstep_front (b off cp : Nat) (t : List (List Int)) (h : windB t = true) (w : World) (hv : RdT w (.slice (some ⟨b, off, none⟩) t.length cp) t) (k : Nat) (l : List Int) (hl : t[k]? = some l) (s : Nat) (hs : s < shN t) (c : UInt8) (hk : k < 2)
    (hc : (c = 97 ∧ (k : Int) = 0 ∧ false = false) ∨ (c = 65 ∧ (k : Int) = 0 ∧ false = true) ∨ (c = 98 ∧ (k : Int) = 1 ∧ false = false) ∨ (c = 66 ∧ (k : Int) = 1 ∧ false = true)) :
    Calls Try.prog 73 #[.slice (some ⟨b, off, none⟩) t.length cp, .int .i64 s, .int .u8 c.toNat] w fun e w' => e = .returned (.int .i64 (nth l s)) ∧ w' = w := by
  obtain ⟨q1, _, _, _, _⟩ := col_of t h k l hl
  obtain ⟨_, _, hv', hm, hcs⟩ := id hv
  cases hv'
  have hkl := (List.getElem?_eq_some_iff.1 hl).1
  obtain ⟨b2, off2, u2, hA2, hcell2, l2, hl2, hrl⟩ := hcs k hkl
  cases hA2
  rw [hl] at hl2; cases hl2
  obtain ⟨A2, c2, rfl, hm2, hc2⟩ := id hrl
  have hsl : s < l.length := by omega
  obtain ⟨b3, off3, u3, rfl, hcell3, rfl⟩ := hc2 s hsl
  have hlet := fun x => rletter_y c k false hc x
  clear hcs hc2 hrl hv q1 hl h hc
  go_enter Try.func73, Try.ntmps73
  go_wp2_with (go_at_call 40; refine (hlet _).mono ?_; rintro e w1 ⟨rfl, rfl⟩)
  go_ret
  exact ⟨rfl, rfl⟩

set_option maxHeartbeats 1000000 in
theorem rstep_back (b off cp : Nat) (t : List (List Int)) (h : windB t = true) (w : World) (hv : RdT w (.slice (some ⟨b, off, none⟩) t.length cp) t) (k : Nat) (l : List Int) (hl : t[k]? = some l) (s : Nat) (hs : s < shN t) (c : UInt8) (hk : k < 2)
    (hc : (c = 97 ∧ (k : Int) = 0 ∧ true = false) ∨ (c = 65 ∧ (k : Int) = 0 ∧ true = true) ∨ (c = 98 ∧ (k : Int) = 1 ∧ true = false) ∨ (c = 66 ∧ (k : Int) = 1 ∧ true = true)) :
    Calls Try.prog 73 #[.slice (some ⟨b, off, none⟩) t.length cp, .int .i64 s, .int .u8 c.toNat] w fun e w' => e = .returned (.int .i64 (nth (windW t) (2 + 10 * k + 5 + s))) ∧ w' = w := by
  obtain ⟨q1, q2, q3, q5, _⟩ := col_of t h k l hl
  obtain ⟨_, _, hv', hm, hcs⟩ := id hv
  cases hv'
  have hkl := (List.getElem?_eq_some_iff.1 hl).1
  obtain ⟨b2, off2, u2, hA2, hcell2, l2, hl2, hrl⟩ := hcs k hkl
  cases hA2
  rw [hl] at hl2; cases hl2
  obtain ⟨A2, c2, rfl, hm2, hc2⟩ := id hrl
  obtain ⟨r, hr, he⟩ : ∃ r, r < l.length ∧ nth l r = s := by
    obtain ⟨r, hr, e⟩ := List.mem_iff_getElem.1 (col_all (shN t) l q1 q2 q3 s hs)
    exact ⟨r, hr, by simpa [nth, List.getElem?_eq_getElem hr] using e⟩
  have Hat := Lib.hid (fun j (hj : j < l.length) => (windW_at t h k l hl j hj).2)
  have He := Lib.hid he
  have hlet := fun x => (rletter_y c k true hc x).mono (R' := fun e w' => e = .returned (.tuple #[.int .i64 k, .bool true, .bool true]) ∧ x = w') (fun _ _ h => ⟨h.1, h.2.symm⟩)
  have hr5 : l.length ≤ 5 := by omega
  clear hcs hrl hv q1 q2 q3 hl h hc he
  go_enter Try.func73, Try.ntmps73
  go_wp2_with (go_at_call 40; refine (hlet _).mono ?_; rintro e w1 ⟨rfl, rfl⟩)
  go_loopw [10] (fun i wr => ∃ q : Nat, q ≤ r ∧ i = .int .i64 q ∧ wr = w) (fun i _ => r - (intOf i).toNat)
  case atStart => exact ⟨0, Nat.zero_le _, rfl, rfl⟩
  case round =>
    obtain ⟨q, hq, rfl, rfl⟩ := hrel
    obtain ⟨b3, off3, u3, rfl, hcell3, rfl⟩ := hc2 q (by omega)
    have hql : q < l.length := by omega
    clear hc2
    by_cases hx : nth l q = (s : Int)
    · have hxb : (nth l q != (s : Int)) = false := by simp [hx]
      have Hq := Lib.hid (Hat.out q hql)
      have Hx := Lib.hid hx
      clear hx
      go_wp2_with fail
      go_ret
      exact ⟨ret_int (by rw [← Hq.out, Hx.out]; rfl), rfl⟩
    · have hxb : (nth l q != (s : Int)) = true := by simpa using hx
      have hqr : q ≠ r := fun e => hx (by rw [e]; exact He.out)
      have hqr2 : q < r := by omega
      clear hx hqr
      go_wp2_with fail
      go_roundw
      case rel => exact ⟨q + 1, by omega, by go_num, by trivial⟩
      case measure => simp [intOf]; omega

theorem rstep_c (v : Value) (t : List (List Int)) (h : windB t = true) (w : World) (hv : RdT w v t) (s : Int) (hs : 0 ≤ s ∧ s < shN t) (c : UInt8) (hc : okL t.length c = true) :
    Calls Try.prog 73 #[v, .int .i64 s, .int .u8 c.toNat] w fun e w' => e = .returned (.int .i64 (stp (windW t) s c)) ∧ w' = w := by
  obtain ⟨h12, _⟩ := windB_parts t h
  obtain ⟨A, cp, rfl, _, hcs⟩ := id hv
  obtain ⟨b, off, _, rfl, _⟩ := hcs 0 (by omega)
  obtain ⟨s, rfl⟩ := Int.eq_ofNat_of_zero_le hs.1
  have hs' : s < shN t := by have := hs.2; omega
  have h0 : t[0]? = some t[0] := List.getElem?_eq_getElem (by omega)
  have front : ∀ (k : Nat) (l : List Int), t[k]? = some l → nth (windW t) (2 + 10 * k + s) = nth l s := fun k l hl => (windW_at t h k l hl s (by have := (col_of t h k l hl).1; omega)).1
  simp only [okL, decide_eq_true_eq] at hc
  rcases hc with rfl | rfl | ⟨h2, rfl | rfl⟩
  · refine (rstep_front b off cp t h w hv 0 _ h0 s hs' 97 (by omega) (.inl ⟨rfl, rfl, rfl⟩)).mono ?_
    rintro e w' ⟨rfl, rfl⟩
    exact ⟨ret_int (by rw [← front 0 _ h0]; rfl), rfl⟩
  · refine (rstep_back b off cp t h w hv 0 _ h0 s hs' 65 (by omega) (.inr (.inl ⟨rfl, rfl, rfl⟩))).mono ?_
    rintro e w' ⟨rfl, rfl⟩
    exact ⟨ret_int rfl, rfl⟩
  · have h1 : t[1]? = some t[1] := List.getElem?_eq_getElem (by omega)
    refine (rstep_front b off cp t h w hv 1 _ h1 s hs' 98 (by omega) (.inr (.inr (.inl ⟨rfl, rfl, rfl⟩)))).mono ?_
    rintro e w' ⟨rfl, rfl⟩
    exact ⟨ret_int (by rw [← front 1 _ h1]; rfl), rfl⟩
  · have h1 : t[1]? = some t[1] := List.getElem?_eq_getElem (by omega)
    refine (rstep_back b off cp t h w hv 1 _ h1 s hs' 66 (by omega) (.inr (.inr (.inr ⟨rfl, rfl, rfl⟩)))).mono ?_
    rintro e w' ⟨rfl, rfl⟩
    exact ⟨ret_int rfl, rfl⟩

set_option maxHeartbeats 1000000 in
theorem rsend_c (v : Value) (t : List (List Int)) (h : windB t = true) (w : World) (hv : RdT w v t) (s : Int) (hs : 0 ≤ s ∧ s < shN t) (b : ByteArray) (hm : b.size ≤ maxLen) (hb : b.data.toList.all (okL t.length) = true) :
    Calls Try.prog 68 #[v, .int .i64 s, .string b] w fun e w' => e = .returned (.int .i64 (snd (windW t) s b.data.toList)) ∧ w' = w := by
  unfold maxLen at hm
  have hWd := windW_okd t h
  have h5 : (shN t : Int) ≤ 5 := by have := (windB_parts t h).2.2.1; omega
  have Hli := Lib.hid (show ∀ c ∈ b.data.toList, 0 ≤ li c from fun c hc => okL_li _ c (List.all_eq_true.1 hb c hc))
  obtain ⟨A, cp, rfl, hmv, _⟩ := id hv
  unfold maxLen at hmv
  go_enter Try.func68, Try.ntmps68
  go_wp2_with fail
  go_loopw [1, 7] (fun x i wr => ∃ k : Nat, k ≤ b.size ∧ i = .int .i64 k ∧ x = .int .i64 (snd (windW t) s (b.data.toList.take k)) ∧ wr = w) (fun _ i _ => b.size - (intOf i).toNat)
  case atStart => exact ⟨0, Nat.zero_le _, rfl, rfl, rfl⟩
  case round =>
    obtain ⟨k, hk, rfl, rfl, rfl⟩ := hrel
    by_cases hlt : k < b.size
    · have hin := snd_okd _ _ hWd h5 s hs (b.data.toList.take k) (fun c hc => Hli.out c (List.mem_of_mem_take hc))
      have hok : okL t.length b[k] = true := List.all_eq_true.1 hb _ (Array.mem_toList_iff.2 (Array.getElem_mem (xs := b.data) (i := k) hlt))
      have hst := fun x hx => rstep_c (.slice A t.length cp) t h x hx _ hin b[k] hok
      have Hsn := Lib.hid (snd_snoc (windW t) s b k hlt)
      generalize snd (windW t) s (b.data.toList.take k) = x at *
      clear hok hb hin
      go_wp2_with (go_at_call 73; refine (hst _ hv).mono ?_; rintro e w1 ⟨rfl, rfl⟩)
      go_roundw
      case rel => exact ⟨k + 1, by omega, by go_num, by rw [Hsn.out], by trivial⟩
      case measure => simp [intOf]; omega
    · have Hk := Lib.hid (show k = b.size by omega)
      clear hb
      go_wp2_with fail
      go_ret
      exact ⟨ret_int (by rw [List.take_of_length_le (by rw [Hk.out]; simp)]), rfl⟩
end Go.Proofs.Ytikedhkibdeheaa
