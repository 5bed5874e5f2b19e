/- The reference's Factors. -/
import Derived.Test.YtfaogfcbppojoaaJc
import Derived.Test.YtfaogfcbppojoaaJa
namespace Go.Proofs.Ytfaogfcbppojoaa
open Go.RowKit
set_option linter.unusedVariables false

theorem gE_zero (a : Int) (r : ByteArray) (h : gE a r = 0) : a = 0 ∧ exA r.data.toList = 0 ∧ exB r.data.toList = 0 := by
  unfold gE at h
  have h1 : Int.gcd (Int.gcd a (exA r.data.toList)) (exB r.data.toList) = 0 := by omega
  obtain ⟨h2, h3⟩ := Int.gcd_eq_zero_iff.1 h1
  have h4 : Int.gcd a (exA r.data.toList) = 0 := by omega
  obtain ⟨h5, h6⟩ := Int.gcd_eq_zero_iff.1 h4
  exact ⟨h5, h6, h3⟩
theorem dE_zero : ∀ (rules : List ByteArray) (a : Int), rules.foldl gE a = 0 → a = 0 ∧ ∀ r ∈ rules, exA r.data.toList = 0 ∧ exB r.data.toList = 0
  | [], a, h => ⟨h, fun _ hr => by cases hr⟩
  | r :: rs, a, h => by
    obtain ⟨h1, h2⟩ := dE_zero rs (gE a r) h
    obtain ⟨h3, h4, h5⟩ := gE_zero a r h1
    refine ⟨h3, fun x hx => ?_⟩
    rcases List.mem_cons.1 hx with rfl | hx
    · exact ⟨h4, h5⟩
    · exact h2 x hx
theorem dDi_zero (r : ByteArray) (h : exA r.data.toList = 0 ∧ exB r.data.toList = 0) : ∀ (qs : List ByteArray), dDi 0 r qs = 0
  | [] => rfl
  | q :: qs => by
    have : gD 0 r q = 0 := by simp [gD, det, h.1, h.2]
    show dDi (gD 0 r q) r qs = 0
    rw [this]; exact dDi_zero r h qs
theorem dD_zero (rules : List ByteArray) (h : dE rules = 0) : ∀ k, k ≤ rules.length → dD rules k = 0
  | 0, _ => rfl
  | k + 1, hk => by
    have hr : rules[k]? = some rules[k] := List.getElem?_eq_getElem (by omega)
    rw [dD_snoc rules k _ hr, dD_zero rules h k (by omega)]
    exact dDi_zero _ ((dE_zero rules 0 h).2 _ (List.mem_of_getElem? hr)) _
theorem group_all2 (g : Int) (rules : List ByteArray) (h : groupB g rules = true) : ∀ r ∈ rules, r.data.toList.all (okL 2) = true := by
  intro r hr
  simp only [groupB, Bool.and_eq_true, decide_eq_true_eq] at h
  have := List.all_eq_true.1 h.2.2 r hr
  simp only [wordB, Bool.and_eq_true, decide_eq_true_eq] at this
  exact all_two g _ this.2

set_option maxHeartbeats 4000000 in
set_option maxRecDepth 100000 in
theorem rfactors_2p (v : Value) (rules : List ByteArray) (hz : szOk rules) (hG : groupB 2 rules = true) (hE0 : 0 < dE rules) (w : World) (hv : RdS w v rules) :
    Calls Try.prog 15 #[.agg #[.int .i64 2, v]] w fun e w' => ∃ u, e = .returned (.tuple #[u, .int .i64 (frees (allF 2 rules))]) ∧ RdI w' u (bigs (allF 2 rules)) ∧ Keeps w w' := by
  obtain ⟨A, c, rfl, hm, hcs⟩ := id hv
  unfold maxLen at hm
  have hs := small_of _ _ hG
  have hall2 := group_all2 _ _ hG
  obtain ⟨i0, hi, hz0, hz1, hz2⟩ := info_parts infoI
  have hElast := dE_le rules hs rules.length (Nat.le_refl _)
  rw [List.take_length] at hElast
  have hDlast := dD_le rules hs rules.length (Nat.le_refl _)
  obtain ⟨all, hall⟩ : ∃ all, all = allF 2 rules := ⟨_, rfl⟩
  rw [← hall]
  rw [allF, if_pos rfl] at hall
  have Hall := Lib.hid hall
  clear hall hv
  go_enter Try.func15, Try.ntmps15
  go_wp2_with fail
  go_loopw [4, 5, 6] (fun a b i wr => ∃ k : Nat, k ≤ rules.length ∧ i = .int .i64 k ∧ a = .int .i64 (dE (rules.take k)) ∧ b = .int .i64 (dD rules k) ∧ (0 ≤ dE (rules.take k) ∧ dE (rules.take k) ≤ 30) ∧ (0 ≤ dD rules k ∧ dD rules k ≤ 1800) ∧ At wr w.heap.size 30 #[.int .i64 2, .slice A rules.length c] ∧ Keeps w wr) (fun _ _ i _ => rules.length - (intOf i).toNat)
  case atStart => exact ⟨0, Nat.zero_le _, rfl, rfl, rfl, by simp [dE], by simp [dD], At.new _ _ _, Keeps.alloc (Below.refl _ _) _⟩
  case round =>
    obtain ⟨k, hk, rfl, rfl, rfl, hE, hD, hat, hb⟩ := hrel
    have hat0 := hat.cell 0
    have hat1 := hat.cell 1
    by_cases hlt : k < rules.length
    · obtain ⟨b0, off, u, rfl, hcell0, r, hrk, rfl⟩ := hcs k hlt
      have hcell := cell_keep hcell0 hb
      have hr30 := hs r (List.mem_of_getElem? hrk)
      have hrok := hall2 r (List.mem_of_getElem? hrk)
      obtain ⟨⟨a1, a2⟩, ⟨b1, b2⟩⟩ := ex_small r hr30
      have he := Lib.hid (dE_snoc rules k r hrk)
      have hd := Lib.hid (dD_snoc rules k r hrk)
      have Hgle := gcd_le (exA r.data.toList) (exB r.data.toList) 30 (by omega) (by omega) (by omega) (by omega)
      obtain ⟨q1, q2⟩ := Hgle
      have Hass := Lib.hid (show (Int.gcd (dE (rules.take k)) (Int.gcd (exA r.data.toList) (exB r.data.toList)) : Int) = gE (dE (rules.take k)) r by rw [gE, Int.gcd_assoc])
      have Hgle2 := gcd_le (Int.gcd (dE (rules.take k)) (exA r.data.toList)) (exB r.data.toList) 30 (by omega) (gcd_le _ _ 30 (by omega) (by omega) (by omega) (by omega)).2 (by omega) (by omega)
      have HgleH := Lib.hid Hgle2
      obtain ⟨E1, E2⟩ := hE
      clear hrk hcell0 Hgle2
      generalize dE (rules.take k) = E at *
      go_wp2_with (
        first
        | (go_at_call 35; refine (rexponents_c r (by unfold maxLen; omega) hrok _).mono ?_; rintro e w1 ⟨rfl, hb1⟩)
        | (
          refine wpList_store_row rfl 65 _ _ rfl w1.heap.size _ rfl rfl 65 (ic [0, 0]) (At.new w1 65 (ic [0, 0])) (sizeE _ rfl) rfl (ic_one _) ?_
          have hatx : At ((w1.alloc (.cells #[.int .i64 0, .int .i64 0] 65)).setRow w1.heap.size (ic [exA r.data.toList, exB r.data.toList])) w1.heap.size 65 (ic [exA r.data.toList, exB r.data.toList]) := (At.new w1 65 (ic [0, 0])).row _
          have hbx : Keeps w ((w1.alloc (.cells #[.int .i64 0, .int .i64 0] 65)).setRow w1.heap.size (ic [exA r.data.toList, exB r.data.toList])) := below_row (Keeps.alloc (Keeps.next hb hb1) _) (by have := hb.size; have := hb1.size; omega) _
          have hatg : At ((w1.alloc (.cells #[.int .i64 0, .int .i64 0] 65)).setRow w1.heap.size (ic [exA r.data.toList, exB r.data.toList])) w.heap.size 30 #[.int .i64 2, .slice (some ⟨b0, off, none⟩) rules.length c] := ((hat.later hb1).alloc _).rowfar (by have := hat.lt; have := hb1.size; omega) _
          obtain ⟨hA, hB⟩ := cells2 hatx
          have hgx : w.heap.size < w1.heap.size := by have := hat.lt; have := hb1.size; omega
          generalize (w1.alloc (.cells #[.int .i64 0, .int .i64 0] 65)).setRow w1.heap.size (ic [exA r.data.toList, exB r.data.toList]) = w2 at *
          generalize w1.heap.size = ge at *)
        | (go_at_call 36; refine (rgcd_c _ _ (by omega) (by omega) _).mono ?_; rintro e wg ⟨rfl, rfl⟩))
      clear hA hB hat hat0 hat1
      have hDk := hD
      generalize dD rules k = D at *
      go_loopw [5, 8] (fun d i wj => ∃ j : Nat, j ≤ k ∧ i = .int .i64 j ∧ d = .int .i64 (dDi D r (rules.take j)) ∧ (0 ≤ dDi D r (rules.take j) ∧ dDi D r (rules.take j) ≤ 1800) ∧ At wj ge 65 (ic [exA r.data.toList, exB r.data.toList]) ∧ At wj w.heap.size 30 #[.int .i64 2, .slice (some ⟨b0, off, none⟩) rules.length c] ∧ Keeps w wj) (fun _ i _ => k - (intOf i).toNat)
      case atStart => exact ⟨0, Nat.zero_le _, rfl, rfl, by simpa [dDi] using hDk, hatx, hatg, hbx⟩
      case round =>
        obtain ⟨j, hj, rfl, rfl, hDj, hatj, hatgj, hbj⟩ := hrel
        have hat1 := hatgj.cell 1
        by_cases hjl : j < k
        · obtain ⟨b1, off1, u1, he1, hcell1, q, hqk, rfl⟩ := hcs j (by omega)
          cases he1
          have hcj := cell_keep hcell1 hbj
          have hq30 := hs q (List.mem_of_getElem? hqk)
          have hqok := hall2 q (List.mem_of_getElem? hqk)
          obtain ⟨⟨c1, c2⟩, ⟨d1, d2⟩⟩ := ex_small q hq30
          have Hd := Lib.hid (dDi_snoc D r rules j q hqk)
          obtain ⟨m1, m2⟩ := mul_small (exA r.data.toList) (exB q.data.toList) a1 a2 d1 d2
          obtain ⟨m3, m4⟩ := mul_small (exB r.data.toList) (exA q.data.toList) b1 b2 c1 c2
          obtain ⟨D1, D2⟩ := hDj
          have Hgl := Lib.hid (gcd_le (dDi D r (rules.take j)) (det r q) 1800 (by omega) (by omega) (by unfold det; omega) (by unfold det; omega))
          have hjj : j < rules.length := by omega
          go_wp2_with (
            first
            | (go_at_call 35; refine (rexponents_c q (by unfold maxLen; omega) hqok _).mono ?_; rintro e w4 ⟨rfl, hb4⟩)
            | (
              refine wpList_store_row rfl 65 _ _ rfl w4.heap.size _ rfl rfl 65 (ic [0, 0]) (At.new w4 65 (ic [0, 0])) (sizeE _ rfl) rfl (ic_one _) ?_
              have hg4 : ge < w4.heap.size := Nat.lt_of_lt_of_le hatj.lt hb4.size
              have hat5 : At ((w4.alloc (.cells #[.int .i64 0, .int .i64 0] 65)).setRow w4.heap.size (ic [exA q.data.toList, exB q.data.toList])) w4.heap.size 65 (ic [exA q.data.toList, exB q.data.toList]) := (At.new w4 65 (ic [0, 0])).row _
              have hat6 : At ((w4.alloc (.cells #[.int .i64 0, .int .i64 0] 65)).setRow w4.heap.size (ic [exA q.data.toList, exB q.data.toList])) ge 65 (ic [exA r.data.toList, exB r.data.toList]) := ((hatj.later hb4).alloc _).rowfar (by omega) _
              have hat7 : At ((w4.alloc (.cells #[.int .i64 0, .int .i64 0] 65)).setRow w4.heap.size (ic [exA q.data.toList, exB q.data.toList])) w.heap.size 30 #[.int .i64 2, .slice (some ⟨b0, off, none⟩) rules.length c] := ((hatgj.later hb4).alloc _).rowfar (by omega) _
              have hbw5 : Keeps w ((w4.alloc (.cells #[.int .i64 0, .int .i64 0] 65)).setRow w4.heap.size (ic [exA q.data.toList, exB q.data.toList])) := below_row (Keeps.alloc (Keeps.next hbj hb4) _) (by have := hbj.size; have := hb4.size; omega) _
              obtain ⟨hA5, hB5⟩ := cells2 hat5
              obtain ⟨hA6, hB6⟩ := cells2 hat6
              generalize (w4.alloc (.cells #[.int .i64 0, .int .i64 0] 65)).setRow w4.heap.size (ic [exA q.data.toList, exB q.data.toList]) = w5 at *
              clear hat5)
            | (go_at_call 36; refine (rgcd_c _ _ (by omega) (by omega) _).mono ?_; rintro e wg ⟨rfl, rfl⟩))
          go_roundw
          case rel => exact ⟨j + 1, by omega, by go_num, by rw [Hd.out]; rfl, by rw [Hd.out]; exact Hgl.out, hat6, hat7, hbw5⟩
          case measure => simp [intOf]; omega
        · have hjk : rules.take j = rules.take k := by congr 1; omega
          have Hjk := Lib.hid hjk
          clear hjk
          go_wp2_with fail
          go_roundw
          case rel => exact ⟨k + 1, by omega, by go_num, by rw [he.out, Hass.out], by rw [hd.out, Hjk.out], by rw [he.out]; exact HgleH.out, by rw [hd.out, ← Hjk.out]; exact hDj, hatgj, hbj⟩
          case measure => simp [intOf]; omega
    · obtain rfl : k = rules.length := by omega
      rw [List.take_length] at hE
      rw [List.take_length]
      clear hcs hs hall2 hElast hDlast hk
      generalize dE rules = E at *
      generalize dD rules rules.length = D at *
      obtain ⟨E1, E2⟩ := hE
      obtain ⟨D1, D2⟩ := hD
      have hsz := hb.size
      have Hall' := Lib.hid (show all = [E, D / E] by rw [Hall.out]; rw [show max E 1 = E by omega])
      have hlen : all.length = 2 := by rw [Hall'.out]; rfl
      have hmap := Lib.hid (show all.map (Value.int .i64) = [.int .i64 E, .int .i64 (D / E)] by rw [Hall'.out]; rfl)
      have hx0 : ∀ k, 0 ≤ nth all k ∧ nth all k ≤ 1800 := by
        have hq : 0 ≤ D / E ∧ D / E ≤ 1800 := ⟨Int.ediv_nonneg D1 (by omega), Int.le_trans (Int.ediv_le_self _ D1) D2⟩
        intro k
        rw [Hall'.out]
        match k with
        | 0 => exact ⟨E1, by show (E : Int) ≤ 1800; omega⟩
        | 1 => exact hq
        | _ + 2 => exact ⟨Int.le_refl 0, show (0 : Int) ≤ 1800 by decide⟩
      have Hx0 := Lib.hid hx0
      have hatA := fun o : Obj => (hat.alloc o).cell 0
      clear hx0 Hall
      go_wp2_with (at_builtin; refine wpList_append_own _ rfl _ _ 32 rfl w.heap.size 3 i0 _ 1 8 Try.underlying32 hi hz0 hz1 hz2 rfl (by decide) _ 1 [.int .i64 E] rfl ((World.ownsRow_lit wr #[.int .i64 E] 1 hsz (by unfold maxLen; omega) rfl).alloc _) _ 1 1 [.int .i64 (D / E)] rfl rfl (new_cells _ _ _ _ (by simp)) (by simp [Value.oneCell']) (by unfold maxLen; omega) (by omega) (by simp; omega) ?_; intro v' w3 hown3 hgrow3 _; obtain ⟨ge, cap, rfl, hg1, hg2, _, _, hcell⟩ := own_form hown3 (by omega))
      have hb3 : Keeps w w3 := below_grown' (Keeps.alloc (Keeps.alloc hb _) _) hgrow3 (by simpa [Value.ownBlock] using hsz) (by simp; omega)
      have hnth : ∀ k, k < 2 → w3.cell? ⟨ge, k, none⟩ = some (.int .i64 (nth all k)) := by
        intro k hk
        refine hcell k _ ?_
        show [Value.int .i64 E, .int .i64 (D / E)][k]? = _
        rw [← hmap.out, List.getElem?_map, nth, List.getElem?_eq_getElem (by omega)]; rfl
      clear hown3 hgrow3
      clear hcell hat hat0 hat1 hatA
      have hg3 : ∀ wr, Below w3.heap.size w3 wr → ∀ k, k < 2 → wr.cell? ⟨ge, k, none⟩ = some (.int .i64 (nth all k)) := fun wr h k hk => cell_keep (hnth k hk) h
      clear hnth hmap
      have Hlen := Lib.hid hlen
      clear hlen
      go_loopw [11, 12, 13] (fun u c i wr => ∃ k : Nat, k ≤ 2 ∧ i = .int .i64 k ∧ c = .int .i64 (frees (all.take k)) ∧ wr.ownsRow w3.heap.size 3 1 u (bigs (all.take k)).length ((bigs (all.take k)).map (Value.int .i64)) ∧ Below w3.heap.size w3 wr) (fun _ _ i _ => 2 - (intOf i).toNat)
      case atStart => exact ⟨0, by omega, rfl, rfl, World.ownsRow_nil _ _ _ _, Below.refl _ _⟩
      case round =>
        obtain ⟨k, hk, rfl, rfl, hown, hb⟩ := hrel
        by_cases hlt : k < 2
        · have hck := hg3 wr hb k hlt
          obtain ⟨x1, x2⟩ := Hx0.out k
          obtain ⟨f1, f2⟩ := frees_le (all.take k)
          have hfl : frees (all.take k) ≤ 2 := by have := List.length_take_le k all; omega
          have hbl : (bigs (all.take k)).length ≤ 2 := by have := bigs_le (all.take k); have := List.length_take_le k all; omega
          have Hb := Lib.hid (bigs_snoc all k (by have := Hlen.out; omega))
          have Hf := Lib.hid (frees_snoc all k (by have := Hlen.out; omega))
          have hws := hb.size
          clear hg3 f2
          generalize nth all k = x at *
          by_cases h0 : x = 0
          · subst h0
            go_wp2_with fail
            go_roundw
            case rel => exact ⟨k + 1, by omega, by go_num, by rw [Hf.out, if_pos rfl], by rw [Hb.out, if_neg (by decide), List.append_nil]; exact hown, hb⟩
            case measure => simp [intOf]; omega
          · by_cases h1 : 1 < x
            · go_wp2_with (at_builtin; refine wpList_append_own _ rfl _ _ 32 rfl w3.heap.size 3 i0 _ 1 8 Try.underlying32 hi hz0 hz1 hz2 rfl (by decide) _ (bigs (all.take k)).length ((bigs (all.take k)).map (Value.int .i64)) rfl (hown.alloc _) _ 1 1 [.int .i64 x] rfl rfl (new_cells _ _ _ _ (by simp)) (by simp [Value.oneCell']) (by unfold maxLen; omega) (by omega) (by simp; omega) ?_; intro v' w4 hown4 hgrow4 _)
              go_roundw
              case rel => exact ⟨k + 1, by omega, by go_num, by rw [Hf.out, if_neg h0, Int.add_zero], by rw [Hb.out, if_pos h1, List.length_append, List.map_append]; exact hown4, below_grown'' (hb.alloc hws _) hgrow4 (own_base hown) (by simp; omega)⟩
              case measure => simp [intOf]; omega
            · go_wp2_with fail
              go_roundw
              case rel => exact ⟨k + 1, by omega, by go_num, by rw [Hf.out, if_neg h0, Int.add_zero], by rw [Hb.out, if_neg h1, List.append_nil]; exact hown, hb⟩
              case measure => simp [intOf]; omega
        · have hk2 : k = all.length := by have := Hlen.out; omega
          have Hk2 := Lib.hid hk2
          clear hk2
          go_wp2_with fail
          have e := Hk2.out
          subst e
          rw [List.take_length] at *
          refine bodyPost_ret (results_tmp2 (t := 2) (u := 3) (by rfl) _ _ _) rfl ⟨_, rfl, ?_, hb3.trans (hb.mono (by have := hb3.size; omega))⟩
          exact RdB.rd (own_ints hown (by have := bigs_le all; unfold maxLen; omega)) (fun _ _ h => h)

set_option maxHeartbeats 4000000 in
set_option maxRecDepth 100000 in
theorem rfactors_2z (v : Value) (rules : List ByteArray) (hz : szOk rules) (hG : groupB 2 rules = true) (hE0 : dE rules = 0) (w : World) (hv : RdS w v rules) :
    Calls Try.prog 15 #[.agg #[.int .i64 2, v]] w fun e w' => ∃ u, e = .returned (.tuple #[u, .int .i64 (frees (allF 2 rules))]) ∧ RdI w' u (bigs (allF 2 rules)) ∧ Keeps w w' := by
  obtain ⟨A, c, rfl, hm, hcs⟩ := id hv
  unfold maxLen at hm
  have hs := small_of _ _ hG
  have hall2 := group_all2 _ _ hG
  obtain ⟨i0, hi, hz0, hz1, hz2⟩ := info_parts infoI
  have hElast := dE_le rules hs rules.length (Nat.le_refl _)
  rw [List.take_length] at hElast
  have hDlast := dD_le rules hs rules.length (Nat.le_refl _)
  obtain ⟨all, hall⟩ : ∃ all, all = allF 2 rules := ⟨_, rfl⟩
  rw [← hall]
  rw [allF, if_pos rfl] at hall
  have Hall := Lib.hid hall
  clear hall hv
  go_enter Try.func15, Try.ntmps15
  go_wp2_with fail
  go_loopw [4, 5, 6] (fun a b i wr => ∃ k : Nat, k ≤ rules.length ∧ i = .int .i64 k ∧ a = .int .i64 (dE (rules.take k)) ∧ b = .int .i64 (dD rules k) ∧ (0 ≤ dE (rules.take k) ∧ dE (rules.take k) ≤ 30) ∧ (0 ≤ dD rules k ∧ dD rules k ≤ 1800) ∧ At wr w.heap.size 30 #[.int .i64 2, .slice A rules.length c] ∧ Keeps w wr) (fun _ _ i _ => rules.length - (intOf i).toNat)
  case atStart => exact ⟨0, Nat.zero_le _, rfl, rfl, rfl, by simp [dE], by simp [dD], At.new _ _ _, Keeps.alloc (Below.refl _ _) _⟩
  case round =>
    obtain ⟨k, hk, rfl, rfl, rfl, hE, hD, hat, hb⟩ := hrel
    have hat0 := hat.cell 0
    have hat1 := hat.cell 1
    by_cases hlt : k < rules.length
    · obtain ⟨b0, off, u, rfl, hcell0, r, hrk, rfl⟩ := hcs k hlt
      have hcell := cell_keep hcell0 hb
      have hr30 := hs r (List.mem_of_getElem? hrk)
      have hrok := hall2 r (List.mem_of_getElem? hrk)
      obtain ⟨⟨a1, a2⟩, ⟨b1, b2⟩⟩ := ex_small r hr30
      have he := Lib.hid (dE_snoc rules k r hrk)
      have hd := Lib.hid (dD_snoc rules k r hrk)
      have Hgle := gcd_le (exA r.data.toList) (exB r.data.toList) 30 (by omega) (by omega) (by omega) (by omega)
      obtain ⟨q1, q2⟩ := Hgle
      have Hass := Lib.hid (show (Int.gcd (dE (rules.take k)) (Int.gcd (exA r.data.toList) (exB r.data.toList)) : Int) = gE (dE (rules.take k)) r by rw [gE, Int.gcd_assoc])
      have Hgle2 := gcd_le (Int.gcd (dE (rules.take k)) (exA r.data.toList)) (exB r.data.toList) 30 (by omega) (gcd_le _ _ 30 (by omega) (by omega) (by omega) (by omega)).2 (by omega) (by omega)
      have HgleH := Lib.hid Hgle2
      obtain ⟨E1, E2⟩ := hE
      clear hrk hcell0 Hgle2
      generalize dE (rules.take k) = E at *
      go_wp2_with (
        first
        | (go_at_call 35; refine (rexponents_c r (by unfold maxLen; omega) hrok _).mono ?_; rintro e w1 ⟨rfl, hb1⟩)
        | (
          refine wpList_store_row rfl 65 _ _ rfl w1.heap.size _ rfl rfl 65 (ic [0, 0]) (At.new w1 65 (ic [0, 0])) (sizeE _ rfl) rfl (ic_one _) ?_
          have hatx : At ((w1.alloc (.cells #[.int .i64 0, .int .i64 0] 65)).setRow w1.heap.size (ic [exA r.data.toList, exB r.data.toList])) w1.heap.size 65 (ic [exA r.data.toList, exB r.data.toList]) := (At.new w1 65 (ic [0, 0])).row _
          have hbx : Keeps w ((w1.alloc (.cells #[.int .i64 0, .int .i64 0] 65)).setRow w1.heap.size (ic [exA r.data.toList, exB r.data.toList])) := below_row (Keeps.alloc (Keeps.next hb hb1) _) (by have := hb.size; have := hb1.size; omega) _
          have hatg : At ((w1.alloc (.cells #[.int .i64 0, .int .i64 0] 65)).setRow w1.heap.size (ic [exA r.data.toList, exB r.data.toList])) w.heap.size 30 #[.int .i64 2, .slice (some ⟨b0, off, none⟩) rules.length c] := ((hat.later hb1).alloc _).rowfar (by have := hat.lt; have := hb1.size; omega) _
          obtain ⟨hA, hB⟩ := cells2 hatx
          have hgx : w.heap.size < w1.heap.size := by have := hat.lt; have := hb1.size; omega
          generalize (w1.alloc (.cells #[.int .i64 0, .int .i64 0] 65)).setRow w1.heap.size (ic [exA r.data.toList, exB r.data.toList]) = w2 at *
          generalize w1.heap.size = ge at *)
        | (go_at_call 36; refine (rgcd_c _ _ (by omega) (by omega) _).mono ?_; rintro e wg ⟨rfl, rfl⟩))
      clear hA hB hat hat0 hat1
      have hDk := hD
      generalize dD rules k = D at *
      go_loopw [5, 8] (fun d i wj => ∃ j : Nat, j ≤ k ∧ i = .int .i64 j ∧ d = .int .i64 (dDi D r (rules.take j)) ∧ (0 ≤ dDi D r (rules.take j) ∧ dDi D r (rules.take j) ≤ 1800) ∧ At wj ge 65 (ic [exA r.data.toList, exB r.data.toList]) ∧ At wj w.heap.size 30 #[.int .i64 2, .slice (some ⟨b0, off, none⟩) rules.length c] ∧ Keeps w wj) (fun _ i _ => k - (intOf i).toNat)
      case atStart => exact ⟨0, Nat.zero_le _, rfl, rfl, by simpa [dDi] using hDk, hatx, hatg, hbx⟩
      case round =>
        obtain ⟨j, hj, rfl, rfl, hDj, hatj, hatgj, hbj⟩ := hrel
        have hat1 := hatgj.cell 1
        by_cases hjl : j < k
        · obtain ⟨b1, off1, u1, he1, hcell1, q, hqk, rfl⟩ := hcs j (by omega)
          cases he1
          have hcj := cell_keep hcell1 hbj
          have hq30 := hs q (List.mem_of_getElem? hqk)
          have hqok := hall2 q (List.mem_of_getElem? hqk)
          obtain ⟨⟨c1, c2⟩, ⟨d1, d2⟩⟩ := ex_small q hq30
          have Hd := Lib.hid (dDi_snoc D r rules j q hqk)
          obtain ⟨m1, m2⟩ := mul_small (exA r.data.toList) (exB q.data.toList) a1 a2 d1 d2
          obtain ⟨m3, m4⟩ := mul_small (exB r.data.toList) (exA q.data.toList) b1 b2 c1 c2
          obtain ⟨D1, D2⟩ := hDj
          have Hgl := Lib.hid (gcd_le (dDi D r (rules.take j)) (det r q) 1800 (by omega) (by omega) (by unfold det; omega) (by unfold det; omega))
          have hjj : j < rules.length := by omega
          go_wp2_with (
            first
            | (go_at_call 35; refine (rexponents_c q (by unfold maxLen; omega) hqok _).mono ?_; rintro e w4 ⟨rfl, hb4⟩)
            | (
              refine wpList_store_row rfl 65 _ _ rfl w4.heap.size _ rfl rfl 65 (ic [0, 0]) (At.new w4 65 (ic [0, 0])) (sizeE _ rfl) rfl (ic_one _) ?_
              have hg4 : ge < w4.heap.size := Nat.lt_of_lt_of_le hatj.lt hb4.size
              have hat5 : At ((w4.alloc (.cells #[.int .i64 0, .int .i64 0] 65)).setRow w4.heap.size (ic [exA q.data.toList, exB q.data.toList])) w4.heap.size 65 (ic [exA q.data.toList, exB q.data.toList]) := (At.new w4 65 (ic [0, 0])).row _
              have hat6 : At ((w4.alloc (.cells #[.int .i64 0, .int .i64 0] 65)).setRow w4.heap.size (ic [exA q.data.toList, exB q.data.toList])) ge 65 (ic [exA r.data.toList, exB r.data.toList]) := ((hatj.later hb4).alloc _).rowfar (by omega) _
              have hat7 : At ((w4.alloc (.cells #[.int .i64 0, .int .i64 0] 65)).setRow w4.heap.size (ic [exA q.data.toList, exB q.data.toList])) w.heap.size 30 #[.int .i64 2, .slice (some ⟨b0, off, none⟩) rules.length c] := ((hatgj.later hb4).alloc _).rowfar (by omega) _
              have hbw5 : Keeps w ((w4.alloc (.cells #[.int .i64 0, .int .i64 0] 65)).setRow w4.heap.size (ic [exA q.data.toList, exB q.data.toList])) := below_row (Keeps.alloc (Keeps.next hbj hb4) _) (by have := hbj.size; have := hb4.size; omega) _
              obtain ⟨hA5, hB5⟩ := cells2 hat5
              obtain ⟨hA6, hB6⟩ := cells2 hat6
              generalize (w4.alloc (.cells #[.int .i64 0, .int .i64 0] 65)).setRow w4.heap.size (ic [exA q.data.toList, exB q.data.toList]) = w5 at *
              clear hat5)
            | (go_at_call 36; refine (rgcd_c _ _ (by omega) (by omega) _).mono ?_; rintro e wg ⟨rfl, rfl⟩))
          go_roundw
          case rel => exact ⟨j + 1, by omega, by go_num, by rw [Hd.out]; rfl, by rw [Hd.out]; exact Hgl.out, hat6, hat7, hbw5⟩
          case measure => simp [intOf]; omega
        · have hjk : rules.take j = rules.take k := by congr 1; omega
          have Hjk := Lib.hid hjk
          clear hjk
          go_wp2_with fail
          go_roundw
          case rel => exact ⟨k + 1, by omega, by go_num, by rw [he.out, Hass.out], by rw [hd.out, Hjk.out], by rw [he.out]; exact HgleH.out, by rw [hd.out, ← Hjk.out]; exact hDj, hatgj, hbj⟩
          case measure => simp [intOf]; omega
    · obtain rfl : k = rules.length := by omega
      rw [List.take_length] at hE
      rw [List.take_length]
      clear hcs hs hall2 hElast hDlast hk
      have hD0 := dD_zero rules hE0 rules.length (Nat.le_refl _)
      generalize dE rules = E at *
      generalize dD rules rules.length = D at *
      subst hE0
      subst hD0
      obtain ⟨E1, E2⟩ := hE
      obtain ⟨D1, D2⟩ := hD
      have hsz := hb.size
      have Hall' := Lib.hid (show all = [0, 0] by rw [Hall.out]; rfl)
      have hlen : all.length = 2 := by rw [Hall'.out]; rfl
      have hmap := Lib.hid (show all.map (Value.int .i64) = [.int .i64 0, .int .i64 0] by rw [Hall'.out]; rfl)
      have hx0 : ∀ k, 0 ≤ nth all k ∧ nth all k ≤ 1800 := by
        intro k
        rw [Hall'.out]
        match k with
        | 0 => exact ⟨E1, by show (0 : Int) ≤ 1800; omega⟩
        | 1 => exact ⟨Int.le_refl 0, show (0 : Int) ≤ 1800 by decide⟩
        | _ + 2 => exact ⟨Int.le_refl 0, show (0 : Int) ≤ 1800 by decide⟩
      have Hx0 := Lib.hid hx0
      have hatA := fun o : Obj => (hat.alloc o).cell 0
      clear hx0 Hall
      go_wp2_with (at_builtin; refine wpList_append_own _ rfl _ _ 32 rfl w.heap.size 3 i0 _ 1 8 Try.underlying32 hi hz0 hz1 hz2 rfl (by decide) _ 1 [.int .i64 0] rfl ((World.ownsRow_lit wr #[.int .i64 0] 1 hsz (by unfold maxLen; omega) rfl).alloc _) _ 1 1 [.int .i64 0] rfl rfl (new_cells _ _ _ _ (by simp)) (by simp [Value.oneCell']) (by unfold maxLen; omega) (by omega) (by simp; omega) ?_; intro v' w3 hown3 hgrow3 _; obtain ⟨ge, cap, rfl, hg1, hg2, _, _, hcell⟩ := own_form hown3 (by omega))
      have hb3 : Keeps w w3 := below_grown' (Keeps.alloc (Keeps.alloc hb _) _) hgrow3 (by simpa [Value.ownBlock] using hsz) (by simp; omega)
      have hnth : ∀ k, k < 2 → w3.cell? ⟨ge, k, none⟩ = some (.int .i64 (nth all k)) := by
        intro k hk
        refine hcell k _ ?_
        show [Value.int .i64 0, .int .i64 0][k]? = _
        rw [← hmap.out, List.getElem?_map, nth, List.getElem?_eq_getElem (by omega)]; rfl
      clear hown3 hgrow3
      clear hcell hat hat0 hat1 hatA
      have hg3 : ∀ wr, Below w3.heap.size w3 wr → ∀ k, k < 2 → wr.cell? ⟨ge, k, none⟩ = some (.int .i64 (nth all k)) := fun wr h k hk => cell_keep (hnth k hk) h
      clear hnth hmap
      have Hlen := Lib.hid hlen
      clear hlen
      go_loopw [11, 12, 13] (fun u c i wr => ∃ k : Nat, k ≤ 2 ∧ i = .int .i64 k ∧ c = .int .i64 (frees (all.take k)) ∧ wr.ownsRow w3.heap.size 3 1 u (bigs (all.take k)).length ((bigs (all.take k)).map (Value.int .i64)) ∧ Below w3.heap.size w3 wr) (fun _ _ i _ => 2 - (intOf i).toNat)
      case atStart => exact ⟨0, by omega, rfl, rfl, World.ownsRow_nil _ _ _ _, Below.refl _ _⟩
      case round =>
        obtain ⟨k, hk, rfl, rfl, hown, hb⟩ := hrel
        by_cases hlt : k < 2
        · have hck := hg3 wr hb k hlt
          obtain ⟨x1, x2⟩ := Hx0.out k
          obtain ⟨f1, f2⟩ := frees_le (all.take k)
          have hfl : frees (all.take k) ≤ 2 := by have := List.length_take_le k all; omega
          have hbl : (bigs (all.take k)).length ≤ 2 := by have := bigs_le (all.take k); have := List.length_take_le k all; omega
          have Hb := Lib.hid (bigs_snoc all k (by have := Hlen.out; omega))
          have Hf := Lib.hid (frees_snoc all k (by have := Hlen.out; omega))
          have hws := hb.size
          clear hg3 f2
          generalize nth all k = x at *
          by_cases h0 : x = 0
          · subst h0
            go_wp2_with fail
            go_roundw
            case rel => exact ⟨k + 1, by omega, by go_num, by rw [Hf.out, if_pos rfl], by rw [Hb.out, if_neg (by decide), List.append_nil]; exact hown, hb⟩
            case measure => simp [intOf]; omega
          · by_cases h1 : 1 < x
            · go_wp2_with (at_builtin; refine wpList_append_own _ rfl _ _ 32 rfl w3.heap.size 3 i0 _ 1 8 Try.underlying32 hi hz0 hz1 hz2 rfl (by decide) _ (bigs (all.take k)).length ((bigs (all.take k)).map (Value.int .i64)) rfl (hown.alloc _) _ 1 1 [.int .i64 x] rfl rfl (new_cells _ _ _ _ (by simp)) (by simp [Value.oneCell']) (by unfold maxLen; omega) (by omega) (by simp; omega) ?_; intro v' w4 hown4 hgrow4 _)
              go_roundw
              case rel => exact ⟨k + 1, by omega, by go_num, by rw [Hf.out, if_neg h0, Int.add_zero], by rw [Hb.out, if_pos h1, List.length_append, List.map_append]; exact hown4, below_grown'' (hb.alloc hws _) hgrow4 (own_base hown) (by simp; omega)⟩
              case measure => simp [intOf]; omega
            · go_wp2_with fail
              go_roundw
              case rel => exact ⟨k + 1, by omega, by go_num, by rw [Hf.out, if_neg h0, Int.add_zero], by rw [Hb.out, if_neg h1, List.append_nil]; exact hown, hb⟩
              case measure => simp [intOf]; omega
        · have hk2 : k = all.length := by have := Hlen.out; omega
          have Hk2 := Lib.hid hk2
          clear hk2
          go_wp2_with fail
          have e := Hk2.out
          subst e
          rw [List.take_length] at *
          refine bodyPost_ret (results_tmp2 (t := 2) (u := 3) (by rfl) _ _ _) rfl ⟨_, rfl, ?_, hb3.trans (hb.mono (by have := hb3.size; omega))⟩
          exact RdB.rd (own_ints hown (by have := bigs_le all; unfold maxLen; omega)) (fun _ _ h => h)

set_option maxHeartbeats 4000000 in
set_option maxRecDepth 100000 in
theorem rfactors_1 (v : Value) (rules : List ByteArray) (hz : szOk rules) (hG : groupB 1 rules = true) (w : World) (hv : RdS w v rules) :
    Calls Try.prog 15 #[.agg #[.int .i64 1, v]] w fun e w' => ∃ u, e = .returned (.tuple #[u, .int .i64 (frees (allF 1 rules))]) ∧ RdI w' u (bigs (allF 1 rules)) ∧ Keeps w w' := by
  obtain ⟨A, c, rfl, hm, hcs⟩ := id hv
  unfold maxLen at hm
  have hs := small_of _ _ hG
  have hall2 := group_all2 _ _ hG
  obtain ⟨i0, hi, hz0, hz1, hz2⟩ := info_parts infoI
  have hElast := dE_le rules hs rules.length (Nat.le_refl _)
  rw [List.take_length] at hElast
  have hDlast := dD_le rules hs rules.length (Nat.le_refl _)
  obtain ⟨all, hall⟩ : ∃ all, all = allF 1 rules := ⟨_, rfl⟩
  rw [← hall]
  rw [allF, if_neg (by decide)] at hall
  have Hall := Lib.hid hall
  clear hall hv
  go_enter Try.func15, Try.ntmps15
  go_wp2_with fail
  go_loopw [4, 5, 6] (fun a b i wr => ∃ k : Nat, k ≤ rules.length ∧ i = .int .i64 k ∧ a = .int .i64 (dE (rules.take k)) ∧ b = .int .i64 (dD rules k) ∧ (0 ≤ dE (rules.take k) ∧ dE (rules.take k) ≤ 30) ∧ (0 ≤ dD rules k ∧ dD rules k ≤ 1800) ∧ At wr w.heap.size 30 #[.int .i64 1, .slice A rules.length c] ∧ Keeps w wr) (fun _ _ i _ => rules.length - (intOf i).toNat)
  case atStart => exact ⟨0, Nat.zero_le _, rfl, rfl, rfl, by simp [dE], by simp [dD], At.new _ _ _, Keeps.alloc (Below.refl _ _) _⟩
  case round =>
    obtain ⟨k, hk, rfl, rfl, rfl, hE, hD, hat, hb⟩ := hrel
    have hat0 := hat.cell 0
    have hat1 := hat.cell 1
    by_cases hlt : k < rules.length
    · obtain ⟨b0, off, u, rfl, hcell0, r, hrk, rfl⟩ := hcs k hlt
      have hcell := cell_keep hcell0 hb
      have hr30 := hs r (List.mem_of_getElem? hrk)
      have hrok := hall2 r (List.mem_of_getElem? hrk)
      obtain ⟨⟨a1, a2⟩, ⟨b1, b2⟩⟩ := ex_small r hr30
      have he := Lib.hid (dE_snoc rules k r hrk)
      have hd := Lib.hid (dD_snoc rules k r hrk)
      have Hgle := gcd_le (exA r.data.toList) (exB r.data.toList) 30 (by omega) (by omega) (by omega) (by omega)
      obtain ⟨q1, q2⟩ := Hgle
      have Hass := Lib.hid (show (Int.gcd (dE (rules.take k)) (Int.gcd (exA r.data.toList) (exB r.data.toList)) : Int) = gE (dE (rules.take k)) r by rw [gE, Int.gcd_assoc])
      have Hgle2 := gcd_le (Int.gcd (dE (rules.take k)) (exA r.data.toList)) (exB r.data.toList) 30 (by omega) (gcd_le _ _ 30 (by omega) (by omega) (by omega) (by omega)).2 (by omega) (by omega)
      have HgleH := Lib.hid Hgle2
      obtain ⟨E1, E2⟩ := hE
      clear hrk hcell0 Hgle2
      generalize dE (rules.take k) = E at *
      go_wp2_with (
        first
        | (go_at_call 35; refine (rexponents_c r (by unfold maxLen; omega) hrok _).mono ?_; rintro e w1 ⟨rfl, hb1⟩)
        | (
          refine wpList_store_row rfl 65 _ _ rfl w1.heap.size _ rfl rfl 65 (ic [0, 0]) (At.new w1 65 (ic [0, 0])) (sizeE _ rfl) rfl (ic_one _) ?_
          have hatx : At ((w1.alloc (.cells #[.int .i64 0, .int .i64 0] 65)).setRow w1.heap.size (ic [exA r.data.toList, exB r.data.toList])) w1.heap.size 65 (ic [exA r.data.toList, exB r.data.toList]) := (At.new w1 65 (ic [0, 0])).row _
          have hbx : Keeps w ((w1.alloc (.cells #[.int .i64 0, .int .i64 0] 65)).setRow w1.heap.size (ic [exA r.data.toList, exB r.data.toList])) := below_row (Keeps.alloc (Keeps.next hb hb1) _) (by have := hb.size; have := hb1.size; omega) _
          have hatg : At ((w1.alloc (.cells #[.int .i64 0, .int .i64 0] 65)).setRow w1.heap.size (ic [exA r.data.toList, exB r.data.toList])) w.heap.size 30 #[.int .i64 1, .slice (some ⟨b0, off, none⟩) rules.length c] := ((hat.later hb1).alloc _).rowfar (by have := hat.lt; have := hb1.size; omega) _
          obtain ⟨hA, hB⟩ := cells2 hatx
          have hgx : w.heap.size < w1.heap.size := by have := hat.lt; have := hb1.size; omega
          generalize (w1.alloc (.cells #[.int .i64 0, .int .i64 0] 65)).setRow w1.heap.size (ic [exA r.data.toList, exB r.data.toList]) = w2 at *
          generalize w1.heap.size = ge at *)
        | (go_at_call 36; refine (rgcd_c _ _ (by omega) (by omega) _).mono ?_; rintro e wg ⟨rfl, rfl⟩))
      clear hA hB hat hat0 hat1
      have hDk := hD
      generalize dD rules k = D at *
      go_loopw [5, 8] (fun d i wj => ∃ j : Nat, j ≤ k ∧ i = .int .i64 j ∧ d = .int .i64 (dDi D r (rules.take j)) ∧ (0 ≤ dDi D r (rules.take j) ∧ dDi D r (rules.take j) ≤ 1800) ∧ At wj ge 65 (ic [exA r.data.toList, exB r.data.toList]) ∧ At wj w.heap.size 30 #[.int .i64 1, .slice (some ⟨b0, off, none⟩) rules.length c] ∧ Keeps w wj) (fun _ i _ => k - (intOf i).toNat)
      case atStart => exact ⟨0, Nat.zero_le _, rfl, rfl, by simpa [dDi] using hDk, hatx, hatg, hbx⟩
      case round =>
        obtain ⟨j, hj, rfl, rfl, hDj, hatj, hatgj, hbj⟩ := hrel
        have hat1 := hatgj.cell 1
        by_cases hjl : j < k
        · obtain ⟨b1, off1, u1, he1, hcell1, q, hqk, rfl⟩ := hcs j (by omega)
          cases he1
          have hcj := cell_keep hcell1 hbj
          have hq30 := hs q (List.mem_of_getElem? hqk)
          have hqok := hall2 q (List.mem_of_getElem? hqk)
          obtain ⟨⟨c1, c2⟩, ⟨d1, d2⟩⟩ := ex_small q hq30
          have Hd := Lib.hid (dDi_snoc D r rules j q hqk)
          obtain ⟨m1, m2⟩ := mul_small (exA r.data.toList) (exB q.data.toList) a1 a2 d1 d2
          obtain ⟨m3, m4⟩ := mul_small (exB r.data.toList) (exA q.data.toList) b1 b2 c1 c2
          obtain ⟨D1, D2⟩ := hDj
          have Hgl := Lib.hid (gcd_le (dDi D r (rules.take j)) (det r q) 1800 (by omega) (by omega) (by unfold det; omega) (by unfold det; omega))
          have hjj : j < rules.length := by omega
          go_wp2_with (
            first
            | (go_at_call 35; refine (rexponents_c q (by unfold maxLen; omega) hqok _).mono ?_; rintro e w4 ⟨rfl, hb4⟩)
            | (
              refine wpList_store_row rfl 65 _ _ rfl w4.heap.size _ rfl rfl 65 (ic [0, 0]) (At.new w4 65 (ic [0, 0])) (sizeE _ rfl) rfl (ic_one _) ?_
              have hg4 : ge < w4.heap.size := Nat.lt_of_lt_of_le hatj.lt hb4.size
              have hat5 : At ((w4.alloc (.cells #[.int .i64 0, .int .i64 0] 65)).setRow w4.heap.size (ic [exA q.data.toList, exB q.data.toList])) w4.heap.size 65 (ic [exA q.data.toList, exB q.data.toList]) := (At.new w4 65 (ic [0, 0])).row _
              have hat6 : At ((w4.alloc (.cells #[.int .i64 0, .int .i64 0] 65)).setRow w4.heap.size (ic [exA q.data.toList, exB q.data.toList])) ge 65 (ic [exA r.data.toList, exB r.data.toList]) := ((hatj.later hb4).alloc _).rowfar (by omega) _
              have hat7 : At ((w4.alloc (.cells #[.int .i64 0, .int .i64 0] 65)).setRow w4.heap.size (ic [exA q.data.toList, exB q.data.toList])) w.heap.size 30 #[.int .i64 1, .slice (some ⟨b0, off, none⟩) rules.length c] := ((hatgj.later hb4).alloc _).rowfar (by omega) _
              have hbw5 : Keeps w ((w4.alloc (.cells #[.int .i64 0, .int .i64 0] 65)).setRow w4.heap.size (ic [exA q.data.toList, exB q.data.toList])) := below_row (Keeps.alloc (Keeps.next hbj hb4) _) (by have := hbj.size; have := hb4.size; omega) _
              obtain ⟨hA5, hB5⟩ := cells2 hat5
              obtain ⟨hA6, hB6⟩ := cells2 hat6
              generalize (w4.alloc (.cells #[.int .i64 0, .int .i64 0] 65)).setRow w4.heap.size (ic [exA q.data.toList, exB q.data.toList]) = w5 at *
              clear hat5)
            | (go_at_call 36; refine (rgcd_c _ _ (by omega) (by omega) _).mono ?_; rintro e wg ⟨rfl, rfl⟩))
          go_roundw
          case rel => exact ⟨j + 1, by omega, by go_num, by rw [Hd.out]; rfl, by rw [Hd.out]; exact Hgl.out, hat6, hat7, hbw5⟩
          case measure => simp [intOf]; omega
        · have hjk : rules.take j = rules.take k := by congr 1; omega
          have Hjk := Lib.hid hjk
          clear hjk
          go_wp2_with fail
          go_roundw
          case rel => exact ⟨k + 1, by omega, by go_num, by rw [he.out, Hass.out], by rw [hd.out, Hjk.out], by rw [he.out]; exact HgleH.out, by rw [hd.out, ← Hjk.out]; exact hDj, hatgj, hbj⟩
          case measure => simp [intOf]; omega
    · obtain rfl : k = rules.length := by omega
      rw [List.take_length] at hE
      rw [List.take_length]
      clear hcs hs hall2 hElast hDlast hk
      generalize dE rules = E at *
      generalize dD rules rules.length = D at *
      obtain ⟨E1, E2⟩ := hE
      obtain ⟨D1, D2⟩ := hD
      have hsz := hb.size
      have Hall' := Lib.hid (show all = [E] by rw [Hall.out]; skip)
      have hlen : all.length = 1 := by rw [Hall'.out]; rfl
      have hmap := Lib.hid (show all.map (Value.int .i64) = [.int .i64 E] by rw [Hall'.out]; rfl)
      have hx0 : ∀ k, 0 ≤ nth all k ∧ nth all k ≤ 1800 := by
        intro k
        rw [Hall'.out]
        match k with
        | 0 => exact ⟨E1, by show (E : Int) ≤ 1800; omega⟩
        | _ + 1 => exact ⟨Int.le_refl 0, show (0 : Int) ≤ 1800 by decide⟩
      have Hx0 := Lib.hid hx0
      have hatA := fun o : Obj => (hat.alloc o).cell 0
      clear hx0 Hall
      go_wp2_with fail
      have hown3 := World.ownsRow_lit (e := 3) (size := 1) (base := w.heap.size) wr #[.int .i64 E] 1 hsz (by unfold maxLen; omega) rfl
      have hb3 : Keeps w (wr.alloc (.cells #[.int .i64 E] 3)) := Keeps.alloc hb _
      have hcell : ∀ (j : Nat) (u : Value), [Value.int .i64 E][j]? = some u → (wr.alloc (.cells #[.int .i64 E] 3)).cell? ⟨wr.heap.size, j, none⟩ = some u := fun j u hu => by rw [(At.new wr _ _).cell]; simpa using hu
      generalize wr.alloc (.cells #[.int .i64 E] 3) = w3 at *
      generalize wr.heap.size = ge at *
      have hnth : ∀ k, k < 1 → w3.cell? ⟨ge, k, none⟩ = some (.int .i64 (nth all k)) := by
        intro k hk
        refine hcell k _ ?_
        show [Value.int .i64 E][k]? = _
        rw [← hmap.out, List.getElem?_map, nth, List.getElem?_eq_getElem (by omega)]; rfl
      clear hown3
      clear hcell hat hat0 hat1 hatA
      have hg3 : ∀ wr, Below w3.heap.size w3 wr → ∀ k, k < 1 → wr.cell? ⟨ge, k, none⟩ = some (.int .i64 (nth all k)) := fun wr h k hk => cell_keep (hnth k hk) h
      clear hnth hmap
      have Hlen := Lib.hid hlen
      clear hlen
      go_loopw [11, 12, 13] (fun u c i wr => ∃ k : Nat, k ≤ 1 ∧ i = .int .i64 k ∧ c = .int .i64 (frees (all.take k)) ∧ wr.ownsRow w3.heap.size 3 1 u (bigs (all.take k)).length ((bigs (all.take k)).map (Value.int .i64)) ∧ Below w3.heap.size w3 wr) (fun _ _ i _ => 1 - (intOf i).toNat)
      case atStart => exact ⟨0, by omega, rfl, rfl, World.ownsRow_nil _ _ _ _, Below.refl _ _⟩
      case round =>
        obtain ⟨k, hk, rfl, rfl, hown, hb⟩ := hrel
        by_cases hlt : k < 1
        · have hck := hg3 wr hb k hlt
          obtain ⟨x1, x2⟩ := Hx0.out k
          obtain ⟨f1, f2⟩ := frees_le (all.take k)
          have hfl : frees (all.take k) ≤ 2 := by have := List.length_take_le k all; omega
          have hbl : (bigs (all.take k)).length ≤ 2 := by have := bigs_le (all.take k); have := List.length_take_le k all; omega
          have Hb := Lib.hid (bigs_snoc all k (by have := Hlen.out; omega))
          have Hf := Lib.hid (frees_snoc all k (by have := Hlen.out; omega))
          have hws := hb.size
          clear hg3 f2
          generalize nth all k = x at *
          by_cases h0 : x = 0
          · subst h0
            go_wp2_with fail
            go_roundw
            case rel => exact ⟨k + 1, by omega, by go_num, by rw [Hf.out, if_pos rfl], by rw [Hb.out, if_neg (by decide), List.append_nil]; exact hown, hb⟩
            case measure => simp [intOf]; omega
          · by_cases h1 : 1 < x
            · go_wp2_with (at_builtin; refine wpList_append_own _ rfl _ _ 32 rfl w3.heap.size 3 i0 _ 1 8 Try.underlying32 hi hz0 hz1 hz2 rfl (by decide) _ (bigs (all.take k)).length ((bigs (all.take k)).map (Value.int .i64)) rfl (hown.alloc _) _ 1 1 [.int .i64 x] rfl rfl (new_cells _ _ _ _ (by simp)) (by simp [Value.oneCell']) (by unfold maxLen; omega) (by omega) (by simp; omega) ?_; intro v' w4 hown4 hgrow4 _)
              go_roundw
              case rel => exact ⟨k + 1, by omega, by go_num, by rw [Hf.out, if_neg h0, Int.add_zero], by rw [Hb.out, if_pos h1, List.length_append, List.map_append]; exact hown4, below_grown'' (hb.alloc hws _) hgrow4 (own_base hown) (by simp; omega)⟩
              case measure => simp [intOf]; omega
            · go_wp2_with fail
              go_roundw
              case rel => exact ⟨k + 1, by omega, by go_num, by rw [Hf.out, if_neg h0, Int.add_zero], by rw [Hb.out, if_neg h1, List.append_nil]; exact hown, hb⟩
              case measure => simp [intOf]; omega
        · have hk2 : k = all.length := by have := Hlen.out; omega
          have Hk2 := Lib.hid hk2
          clear hk2
          go_wp2_with fail
          have e := Hk2.out
          subst e
          rw [List.take_length] at *
          refine bodyPost_ret (results_tmp2 (t := 2) (u := 3) (by rfl) _ _ _) rfl ⟨_, rfl, ?_, hb3.trans (hb.mono (by have := hb3.size; omega))⟩
          exact RdB.rd (own_ints hown (by have := bigs_le all; unfold maxLen; omega)) (fun _ _ h => h)
theorem rfactors_c (g : Int) (v : Value) (rules : List ByteArray) (hz : szOk rules) (hG : groupB g rules = true) (w : World) (hv : RdS w v rules) :
    Calls Try.prog 15 #[.agg #[.int .i64 g, v]] w fun e w' => ∃ u, e = .returned (.tuple #[u, .int .i64 (frees (allF g rules))]) ∧ RdI w' u (bigs (allF g rules)) ∧ Keeps w w' := by
  rcases (groupB_parts _ _ hG).1 with rfl | rfl
  · exact rfactors_1 v rules hz hG w hv
  · by_cases h : dE rules = 0
    · exact rfactors_2z v rules hz hG h w hv
    · have := (dE_le rules (small_of _ _ hG) rules.length (Nat.le_refl _)).1
      rw [List.take_length] at this
      exact rfactors_2p v rules hz hG (by omega) w hv
end Go.Proofs.Ytfaogfcbppojoaa
