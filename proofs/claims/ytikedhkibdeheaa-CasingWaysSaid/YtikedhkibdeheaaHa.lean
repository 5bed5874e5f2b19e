/- The comparisons of the law: ints, texts. The comparison of two tables. -/
import Derived.Test.YtikedhkibdeheaaCb
import Derived.Laws.IdiomStrings
namespace Go.Proofs.Ytikedhkibdeheaa
section
open Go.RowKit

theorem ba_ne_self (s : ByteArray) : (s != s) = false := by
  rcases s with ⟨d⟩
  show (!(d == d)) = false
  simp
theorem ba_ne (s t : ByteArray) (h : s ≠ t) : (s != t) = true := by
  rcases s with ⟨d⟩
  rcases t with ⟨e⟩
  show (!(d == e)) = true
  have : d ≠ e := fun x => h (by rw [x])
  simpa using this
theorem list_ne (s t : ByteArray) (h : s ≠ t) : (!s.toList == t.toList) = true := by
  have : s.toList ≠ t.toList := by
    rw [Lib.toList_data, Lib.toList_data]
    intro e
    apply h
    rcases s with ⟨d⟩
    rcases t with ⟨f⟩
    congr 1
    exact Array.toList_inj.1 e
  simpa using this
theorem nth_ext' (l l' : List Int) (h : l.length = l'.length) (hn : ∀ k, k < l.length → nth l k = nth l' k) : l = l' := by
  apply List.ext_getElem h
  intro k h1 h2
  have := hn k h1
  simpa [nth, List.getElem?_eq_getElem h1, List.getElem?_eq_getElem h2] using this

set_option maxHeartbeats 1000000 in
theorem ints_c (v v' : Value) (a b : List Int) (w : World) (ha : RdI w v a) (hb : RdI w v' b) :
    Calls Try.prog 38 #[v, v'] w fun e w' => e = .returned (.bool (decide (a = b))) ∧ ∃ m, w' = w.drewN m := by
  obtain ⟨A, c, rfl, hm, hcs⟩ := id ha
  obtain ⟨A', c', rfl, hm', hcs'⟩ := id hb
  unfold maxLen at hm hm'
  by_cases hl : a.length = b.length
  · have hne : ((a.length : Int) != (b.length : Int)) = false := by simp [hl]
    have Hl := Lib.hid hl
    clear hl
    go_enter Try.func38, Try.ntmps38
    go_wp2_with fail
    go_loopw [5] (fun i wr => ∃ k : Nat, k ≤ a.length ∧ i = .int .i64 k ∧ (∀ j, j < k → nth a j = nth b j) ∧ ∃ m, wr = w.drewN m) (fun i _ => a.length - (intOf i).toNat)
    case atStart => exact ⟨0, Nat.zero_le _, rfl, fun j hj => by omega, 0, rfl⟩
    case round =>
      obtain ⟨k, hk, rfl, hall, m, rfl⟩ := hrel
      by_cases hlt : k < a.length
      · obtain ⟨b0, off, u, rfl, hcell, rfl⟩ := hcs k hlt
        obtain ⟨b1, off1, u1, rfl, hcell1, rfl⟩ := hcs' k (by rw [← Hl.out]; exact hlt)
        have hlt' : k < b.length := by rw [← Hl.out]; exact hlt
        clear hcs hcs' ha hb
        have Hall := Lib.hid hall
        clear hall
        by_cases hx : nth a k = nth b k
        · have hxn : (nth a k != nth b k) = false := by simp [hx]
          have Hx := Lib.hid hx
          clear hx
          go_wp2_with fail
          go_quiet (fail)
          go_wp2_with fail
          go_roundw
          case rel => exact ⟨k + 1, by omega, by go_num, fun j hj => (by
            by_cases h : j < k
            · exact Hall.out j h
            · rw [show j = k by omega]; exact Hx.out), m + nq, rfl⟩
          case measure => simp [intOf]; omega
        · have hxn : (nth a k != nth b k) = true := by simpa using hx
          have Hx := Lib.hid hx
          clear hx
          go_wp2_with fail
          go_quiet (fail)
          go_wp2_with fail
          go_ret
          exact ⟨ret_bool (by symm; rw [decide_eq_false_iff_not]; intro e; exact Hx.out (by rw [e])), m + nq, World.drewN_drewN _ _ _⟩
      · have hkl : k = a.length := by omega
        have Hk := Lib.hid hkl
        have Hall := Lib.hid hall
        clear hkl hall
        go_wp2_with fail
        go_ret
        exact ⟨ret_bool (by symm; rw [decide_eq_true_iff]; exact nth_ext' a b Hl.out (fun j hj => Hall.out j (by rw [Hk.out]; exact hj))), m, rfl⟩
  · have hne : ((a.length : Int) != (b.length : Int)) = true := by simp; omega
    have Hl := Lib.hid hl
    clear hl
    go_enter Try.func38, Try.ntmps38
    go_wp2_with fail
    go_ret
    exact ⟨ret_bool (by symm; rw [decide_eq_false_iff_not]; intro e; exact Hl.out (by rw [e])), 0, rfl⟩
set_option maxHeartbeats 1000000 in
theorem texts_c (v v' : Value) (a b : List ByteArray) (w : World) (ha : RdS w v a) (hb : RdS w v' b) :
    Calls Try.prog 28 #[v, v'] w fun e w' => e = .returned (.bool (decide (a = b))) ∧ ∃ m, w' = w.drewN m := by
  obtain ⟨A, c, rfl, hm, hcs⟩ := id ha
  obtain ⟨A', c', rfl, hm', hcs'⟩ := id hb
  unfold maxLen at hm hm'
  by_cases hl : a.length = b.length
  · have hne : ((a.length : Int) != (b.length : Int)) = false := by simp [hl]
    have Hl := Lib.hid hl
    clear hl
    go_enter Try.func28, Try.ntmps28
    go_wp2_with fail
    go_loopw [5] (fun i wr => ∃ k : Nat, k ≤ a.length ∧ i = .int .i64 k ∧ (∀ j, j < k → a[j]? = b[j]?) ∧ ∃ m, wr = w.drewN m) (fun i _ => a.length - (intOf i).toNat)
    case atStart => exact ⟨0, Nat.zero_le _, rfl, fun j hj => by omega, 0, rfl⟩
    case round =>
      obtain ⟨k, hk, rfl, hall, m, rfl⟩ := hrel
      by_cases hlt : k < a.length
      · obtain ⟨b0, off, u, rfl, hcell, s, hs, rfl⟩ := hcs k hlt
        obtain ⟨b1, off1, u1, rfl, hcell1, s', hs', rfl⟩ := hcs' k (by rw [← Hl.out]; exact hlt)
        have Hs := Lib.hid hs
        have Hs' := Lib.hid hs'
        clear hs hs'
        have hlt' : k < b.length := by rw [← Hl.out]; exact hlt
        clear hcs hcs' ha hb
        have Hall := Lib.hid hall
        clear hall
        by_cases hx : s = s'
        · subst hx
          have hxn := ba_ne_self s
          go_wp2_with fail
          go_quiet (fail)
          go_wp2_with fail
          go_roundw
          case rel => exact ⟨k + 1, by omega, by go_num, fun j hj => (by
            by_cases h : j < k
            · exact Hall.out j h
            · rw [show j = k by omega, Hs.out, Hs'.out]), m + nq, rfl⟩
          case measure => simp [intOf]; omega
        · have hxn := list_ne s s' hx
          have Hx := Lib.hid hx
          clear hx
          go_wp2_with fail
          go_quiet (fail)
          go_wp2_with fail
          go_ret
          exact ⟨ret_bool (by symm; rw [decide_eq_false_iff_not]; intro e; rw [e, Hs'.out] at Hs; exact Hx.out (Option.some.inj Hs.out).symm), m + nq, World.drewN_drewN _ _ _⟩
      · have hkl : k = a.length := by omega
        have Hk := Lib.hid hkl
        have Hall := Lib.hid hall
        clear hkl hall
        go_wp2_with fail
        go_ret
        exact ⟨ret_bool (by symm; rw [decide_eq_true_iff]; exact List.ext_getElem? (fun j => by
          by_cases hj : j < k
          · exact Hall.out j hj
          · rw [List.getElem?_eq_none (by rw [← Hk.out]; omega), List.getElem?_eq_none (by rw [← Hl.out, ← Hk.out]; omega)])), m, rfl⟩
  · have hne : ((a.length : Int) != (b.length : Int)) = true := by simp; omega
    have Hl := Lib.hid hl
    clear hl
    go_enter Try.func28, Try.ntmps28
    go_wp2_with fail
    go_ret
    exact ⟨ret_bool (by symm; rw [decide_eq_false_iff_not]; intro e; exact Hl.out (by rw [e])), 0, rfl⟩
end
section
open Go.RowKit

set_option maxHeartbeats 2000000 in
set_option maxRecDepth 100000 in
theorem same_c (v v' : Value) (s t : List (List Int)) (w : World) (ha : RdT w v s) (hb : RdT w v' t) :
    Calls Try.prog 22 #[v, v'] w fun e w' => e = .returned (.bool (decide (s = t))) ∧ ∃ m, w' = w.drewN m := by
  obtain ⟨A, c, rfl, hm, hcs⟩ := id ha
  obtain ⟨A', c', rfl, hm', hcs'⟩ := id hb
  unfold maxLen at hm hm'
  by_cases hl : s.length = t.length
  · have hne : ((s.length : Int) != (t.length : Int)) = false := by simp [hl]
    have Hl := Lib.hid hl
    clear hl
    go_enter Try.func22, Try.ntmps22
    go_wp2_with fail
    go_loopw [5] (fun i wr => ∃ k : Nat, k ≤ s.length ∧ i = .int .i64 k ∧ (∀ j, j < k → s[j]? = t[j]?) ∧ ∃ m, wr = w.drewN m) (fun i _ => s.length - (intOf i).toNat)
    case atStart => exact ⟨0, Nat.zero_le _, rfl, fun j hj => by omega, 0, rfl⟩
    case round =>
      obtain ⟨k, hk, rfl, hall, m, rfl⟩ := hrel
      by_cases hlt : k < s.length
      · obtain ⟨b0, off, u, rfl, hcell, a, hsk, hra⟩ := hcs k hlt
        have hlt' : k < t.length := by rw [← Hl.out]; exact hlt
        obtain ⟨b1, off1, u1, rfl, hcell1, b, htk, hrb⟩ := hcs' k hlt'
        obtain ⟨A1, c1, rfl, hm1, hc1⟩ := id hra
        obtain ⟨A2, c2, rfl, hm2, hc2⟩ := id hrb
        unfold maxLen at hm1 hm2
        have Hsk := Lib.hid hsk
        have Htk := Lib.hid htk
        have Hall := Lib.hid hall
        clear hsk htk hall hcs hcs' ha hb hra hrb
        by_cases hln : a.length = b.length
        · have hne2 : ((a.length : Int) != (b.length : Int)) = false := by simp [hln]
          have Hln := Lib.hid hln
          clear hln
          go_wp2_with fail
          go_quiet (fail)
          go_wp2_with fail
          go_loopw [6] (fun i wr => ∃ q : Nat, q ≤ a.length ∧ i = .int .i64 q ∧ (∀ j, j < q → nth a j = nth b j) ∧ ∃ m, wr = w.drewN m) (fun i _ => a.length - (intOf i).toNat)
          case atStart => exact ⟨0, Nat.zero_le _, rfl, fun j hj => by omega, m + nq, by first | rfl | exact World.drewN_drewN _ _ _⟩
          case round =>
            obtain ⟨q, hq, rfl, hal, m2, rfl⟩ := hrel
            have Hal := Lib.hid hal
            clear hal
            by_cases hql : q < a.length
            · have hql' : q < b.length := by rw [← Hln.out]; exact hql
              obtain ⟨b3, off3, u3, rfl, hcell3, rfl⟩ := hc1 q hql
              obtain ⟨b4, off4, u4, rfl, hcell4, rfl⟩ := hc2 q hql'
              clear hc1 hc2
              by_cases hx : nth a q = nth b q
              · have hxn : (nth a q != nth b q) = false := by simp [hx]
                have Hx := Lib.hid hx
                clear hx
                go_wp2_with fail
                go_quiet (fail)
                go_wp2_with fail
                go_roundw
                case rel => exact ⟨q + 1, by omega, by go_num, fun j hj => (by
                  by_cases h : j < q
                  · exact Hal.out j h
                  · rw [show j = q by omega]; exact Hx.out), m2 + nq, by first | rfl | exact World.drewN_drewN _ _ _⟩
                case measure => simp [intOf]; omega
              · have hxn : (nth a q != nth b q) = true := by simpa using hx
                have Hx := Lib.hid hx
                clear hx
                go_wp2_with fail
                go_quiet (fail)
                go_wp2_with fail
                go_ret
                exact ⟨ret_bool (by symm; rw [decide_eq_false_iff_not]; intro e; rw [e, Htk.out] at Hsk; have := Option.some.inj Hsk.out; exact Hx.out (by rw [this])), m2 + nq, World.drewN_drewN _ _ _⟩
            · have hqe : q = a.length := by omega
              have hab : a = b := nth_ext' a b Hln.out (fun j hj => Hal.out j (by omega))
              have Hab := Lib.hid hab
              clear hab hc1 hc2
              go_wp2_with fail
              go_roundw
              case rel => exact ⟨k + 1, by omega, by go_num, fun j hj => (by
                by_cases h : j < k
                · exact Hall.out j h
                · rw [show j = k by omega, Hsk.out, Htk.out, Hab.out]), m2, rfl⟩
              case measure => simp [intOf]; omega
        · have hne2 : ((a.length : Int) != (b.length : Int)) = true := by simp; omega
          have Hln := Lib.hid hln
          clear hln
          go_wp2_with fail
          go_quiet (fail)
          go_wp2_with fail
          go_ret
          exact ⟨ret_bool (by symm; rw [decide_eq_false_iff_not]; intro e; rw [e, Htk.out] at Hsk; have := Option.some.inj Hsk.out; exact Hln.out (by rw [this])), m + nq, World.drewN_drewN _ _ _⟩
      · have hkl : k = s.length := by omega
        have Hk := Lib.hid hkl
        have Hall := Lib.hid hall
        clear hkl hall hcs hcs'
        go_wp2_with fail
        go_ret
        exact ⟨ret_bool (by symm; rw [decide_eq_true_iff]; exact List.ext_getElem? (fun j => by
          by_cases hj : j < k
          · exact Hall.out j hj
          · rw [List.getElem?_eq_none (by rw [← Hk.out]; omega), List.getElem?_eq_none (by rw [← Hl.out, ← Hk.out]; omega)])), m, rfl⟩
  · have hne : ((s.length : Int) != (t.length : Int)) = true := by simp; omega
    have Hl := Lib.hid hl
    clear hl hcs hcs'
    go_enter Try.func22, Try.ntmps22
    go_wp2_with fail
    go_ret
    exact ⟨ret_bool (by symm; rw [decide_eq_false_iff_not]; intro e; exact Hl.out (by rw [e])), 0, rfl⟩
end
end Go.Proofs.Ytikedhkibdeheaa
