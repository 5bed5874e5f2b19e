/- Sides; the reference's Sides; the law Sides. -/
import Derived.Test.YtkbidgbnhninnaaEe
import Derived.Test.YtkbidgbnhninnaaBo
import Derived.BigQuiet
namespace Go.Proofs.Ytkbidgbnhninnaa
open Go.RowKit Go.Shelf
set_option linter.unusedVariables false
set_option linter.unusedSimpArgs false

/-- The opposite side. -/
def sopp (S : Nat) : Nat := S ^^^ 4095
theorem hs_sopp (S u : Nat) (hu : u < 12) : hs (sopp S) u = !hs S u := by
  unfold hs sopp
  rw [Nat.testBit_xor, show (4095 : Nat) = 2 ^ 12 - 1 by decide, Nat.testBit_two_pow_sub_one]
  rw [decide_eq_true (show 11 - u < 12 by omega), Bool.xor_true]
def sprN (v S : Nat) : Nat := (S >>> (11 - v)) % 2 ^ v
theorem sprN_lt (v S : Nat) : sprN v S < 2 ^ v := Nat.mod_lt _ (Nat.pow_pos (by decide))
theorem sprN_hs (v S : Nat) (hv : v < 12) (h0 : hs S 0 = false) (u : Nat) (hu : u < v + 1) : hs (sprN v S * 2 ^ (12 - (v + 1))) u = hs S u := by
  rw [hs_mul _ _ u (by omega) (by omega)]
  unfold sprN
  rw [Nat.testBit_mod_two_pow, Nat.testBit_shiftRight]
  by_cases e : u = 0
  · subst e
    rw [h0, decide_eq_false (by omega)]; rfl
  · rw [decide_eq_true (by omega), Bool.true_and]
    unfold hs
    congr 1; omega
set_option maxHeartbeats 1000000 in
theorem Sides_no (n : Int) (V : Value) (l : List Ed) (hg : graphB n l = false) (w : World) (hv : RdE w V l) :
    Calls Try.prog 7 #[.int .i64 n, V] w fun e w' => e = .returned (.tuple #[.string ⟨#[]⟩, .int .i64 2]) ∧ Keeps w w' := by
  have c1 := newGraph_no n V l hg w hv
  clear hv hg
  go_enter Try.func7, Try.ntmps7
  go_wp2_with (go_at_call 15; refine c1.mono ?_; rintro e w1 ⟨rfl, b1⟩)
  go_ret2
  exact ⟨rfl, b1⟩
set_option maxHeartbeats 2000000 in
set_option maxRecDepth 100000 in
theorem Sides_none (v : Nat) (V : Value) (l : List Ed) (hg : graphB ((v : Int) + 1) l = true) (hf : (prp v).find? (fun s => cutB s l) = none) (w : World) (hv : RdE w V l) :
    Calls Try.prog 7 #[.int .i64 ((v : Int) + 1), V] w fun e w' => e = .returned (.tuple #[.string ⟨#[]⟩, .int .i64 6]) ∧ Keeps w w' := by
  have hv12 : v < 12 := by have := (graphB_n hg).2; omega
  have c1 := newGraph_yes _ V l hg w hv
  have c2 := fun B J z h1 h2 => cutter_c v hv12 B V J l (graphB_edges hg) z h1 h2
  rw [hf] at c2
  have HV := Lib.hid hv
  clear hg hv hf
  go_enter Try.func7, Try.ntmps7
  go_wp2_with (first
    | (go_at_call 15; refine c1.mono ?_; rintro e w1 ⟨B, rfl, hB, a1, b1⟩; have c3 := c2 B _ _ a1 (HV.out.below b1); clear c1 c2 a1)
    | (go_at_call 16; refine c3.mono ?_; rintro e w2 ⟨hc, b2⟩; obtain ⟨_, rfl⟩ | ⟨x, hx, _⟩ := hc; rotate_left; cases hx; have k2 := Keeps.next b1 b2))
  go_ret2
  exact ⟨rfl, k2⟩
set_option maxHeartbeats 2000000 in
set_option maxRecDepth 100000 in
theorem Sides_some (v S : Nat) (V : Value) (l : List Ed) (hg : graphB ((v : Int) + 1) l = true) (hf : (prp v).find? (fun s => cutB s l) = some S) (hS : S < 65536) (w : World) (hv : RdE w V l) :
    Calls Try.prog 7 #[.int .i64 ((v : Int) + 1), V] w fun e w' => e = .returned (.tuple #[.string (TX S (v + 1)), .int .i64 0]) ∧ Keeps w w' := by
  have hv12 : v < 12 := by have := (graphB_n hg).2; omega
  have c1 := newGraph_yes _ V l hg w hv
  have c2 := fun B J z h1 h2 => cutter_c v hv12 B V J l (graphB_edges hg) z h1 h2
  have c4 := fun z => text_c S (v + 1) (by omega) hS z
  rw [show ((v + 1 : Nat) : Int) = (v : Int) + 1 by omega] at c4
  rw [hf] at c2
  have HV := Lib.hid hv
  clear hg hv hf
  go_enter Try.func7, Try.ntmps7
  go_wp2_with (first
    | (go_at_call 15; refine c1.mono ?_; rintro e w1 ⟨B, rfl, hB, a1, b1⟩; have c3 := c2 B _ _ a1 (HV.out.below b1); clear c1 c2 a1)
    | (go_at_call 16; refine c3.mono ?_; rintro e w2 ⟨hc, b2⟩; obtain ⟨hx, _⟩ | ⟨x, hx, rfl⟩ := hc; (cases hx); obtain rfl := Option.some.inj hx; have k2 := Keeps.next b1 b2)
    | (go_at_call 17; refine (c4 _).mono ?_; rintro e w3 ⟨rfl, b3⟩; have k3 := Keeps.next k2 b3))
  go_ret2
  exact ⟨rfl, k3⟩
/-- Whether the k-th side of all cuts every edge. -/
def fcB (d : Nat) (l : List Ed) (k : Nat) : Bool := cutB (k * 2 ^ (12 - d)) l
theorem fcB_half (v : Nat) (hv : v < 12) (l : List Ed) (hbl : below (v + 1) l) (hT : edgesT l) (h : ∀ k, k < 2 ^ v → fcB (v + 1) l k = false) (k : Nat) (hk : k < 2 ^ (v + 1)) : fcB (v + 1) l k = false := by
  cases hc : fcB (v + 1) l k with
  | false => rfl
  | true =>
    have key : ∀ S, hs S 0 = false → cutB S l = true → False := fun S h0 hS => by
      have h1 := h (sprN v S) (sprN_lt v S)
      have : fcB (v + 1) l (sprN v S) = cutB S l := by
        unfold fcB cutB
        rw [Bool.eq_iff_iff, List.all_eq_true, List.all_eq_true]
        have e : ∀ x ∈ l, ctB (sprN v S * 2 ^ (12 - (v + 1))) x = ctB S x := fun x hx => by
          have := hbl x hx
          unfold ctB
          rw [sprN_hs v S hv h0 _ (by omega), sprN_hs v S hv h0 _ (by omega)]
        exact ⟨fun h x hx => by rw [← e x hx]; exact h x hx, fun h x hx => by rw [e x hx]; exact h x hx⟩
      rw [this, hS] at h1
      cases h1
    unfold fcB at hc
    cases h0 : hs (k * 2 ^ (12 - (v + 1))) 0 with
    | false => exact (key _ h0 hc).elim
    | true =>
      refine (key (sopp (k * 2 ^ (12 - (v + 1)))) (by rw [hs_sopp _ 0 (by decide), h0]; rfl) ?_).elim
      unfold cutB at hc ⊢
      rw [List.all_eq_true] at hc ⊢
      intro x hx
      have h1 := hc x hx
      have h2 := hT x hx
      unfold ctB at h1 ⊢
      rw [hs_sopp _ _ h2.1, hs_sopp _ _ h2.2.1]
      cases h3 : hs (k * 2 ^ (12 - (v + 1))) x.1.toNat <;> cases h4 : hs (k * 2 ^ (12 - (v + 1))) x.2.1.toNat <;> simp_all
/-- What the reference's Sides answers. -/
def RSid (d : Nat) (l : List Ed) (e : Ending) : Prop :=
  (∃ k, k < 2 ^ d ∧ fcB d l k = true ∧ (∀ j, j < k → fcB d l j = false) ∧ e = .returned (.tuple #[.string (TX (k * 2 ^ (12 - d)) d), .bool true])) ∨ ((∀ k, k < 2 ^ d → fcB d l k = false) ∧ e = .returned (.tuple #[.string ⟨#[]⟩, .bool false]))
set_option maxHeartbeats 4000000 in
set_option maxRecDepth 100000 in
theorem rsides_c (d : Nat) (V : Value) (l : List Ed) (hd : d ≤ 12) (hE : edgesOk l) (hbl : below d l) (w : World) (hV : RdE w V l) :
    Calls Try.prog 10 #[.int .i64 d, V] w fun e w' => RSid d l e ∧ Keeps w w' := by
  have hall := fun X => all_c d hd X
  have hlen := sdl_length d
  have hp := pow12 d hd
  have Hat := Lib.hid (fun k (h : k < 2 ^ d) => sdl_at d k h)
  have Hfc := Lib.hid (fun k => show fcB d l k = cutB (k * 2 ^ (12 - d)) l from rfl)
  have Hres : Hid (∀ e : Ending, RSid d l e ↔ ((∃ k, k < 2 ^ d ∧ fcB d l k = true ∧ (∀ j, j < k → fcB d l j = false) ∧ e = .returned (.tuple #[.string (TX (k * 2 ^ (12 - d)) d), .bool true])) ∨ ((∀ k, k < 2 ^ d → fcB d l k = false) ∧ e = .returned (.tuple #[.string ⟨#[]⟩, .bool false])))) := Lib.hid (fun e => Iff.rfl)
  obtain ⟨SD, hSD⟩ : ∃ SD, sdl d = SD := ⟨_, rfl⟩
  obtain ⟨M, hM⟩ : ∃ M, 2 ^ d = M := ⟨_, rfl⟩
  rw [hSD] at hall hlen Hat
  rw [hM] at hlen hp Hat Hres
  have Hlen := Lib.hid hlen
  clear hSD hlen hM
  obtain ⟨A, c, rfl, hm, hcs⟩ := id hV
  have HcE := Lib.hid hcs
  have HhE := Lib.hid hE
  have Hhb := Lib.hid hbl
  have hl41 := hE.1
  clear hcs hE hbl hm
  go_enter Try.func10, Try.ntmps10
  go_upto_region 2 with (go_at_call 24; refine (hall _).mono ?_; rintro e w1 ⟨u, rfl, hr1, hb1⟩)
  obtain ⟨A1, c1, rfl, hm, hcs⟩ := id hr1
  have Hcs := Lib.hid hcs
  clear hcs hm hall
  rw [Hlen.out] at *
  go_wp2_with fail
  go_loopw [7] (fun i wr => ∃ k : Nat, k ≤ M ∧ i = .int .i64 k ∧ (∀ j, j < k → fcB d l j = false) ∧ Keeps w1 wr) (fun i _ => M - (intOf i).toNat)
  case atStart => exact ⟨0, Nat.zero_le _, rfl, fun j h => by omega, Below.refl _ _⟩
  case round =>
    obtain ⟨k, hk, rfl, hno, hb4⟩ := hrel
    have Hno := Lib.hid hno
    clear hno
    generalize wr = w3 at *
    by_cases hkM : k < M
    · obtain ⟨b', off', u9, he, hcell, s1, hs1, rfl⟩ := Hcs.out k hkM
      cases he
      rw [Hat.out k hkM, Option.some.injEq] at hs1
      subst hs1
      have hc4 := cell_keep hcell hb4
      have HX := Lib.hid (Hfc.out k)
      have hkI : (k : Int) < (M : Int) := by omega
      generalize hXe : k * 2 ^ (12 - d) = X at *
      have Hsz := Lib.hid (TX_size X d)
      have Hch := Lib.hid (fun a (ha : a < d) h' => show (((TX X d)[a]'h').toNat : Int) = if hs X a = true then 49 else 48 by rw [TX_get X d a ha h']; unfold chT; split <;> rfl)
      obtain ⟨TS, hTS⟩ : ∃ TS, TX X d = TS := ⟨_, rfl⟩
      rw [hTS] at hc4
      have HTS := Lib.hid hTS
      have hszT : TS.size = d := by rw [← hTS]; exact Hsz.out
      have hchT : ∀ a, a < d → ∀ h', ((TS[a]'h').toNat : Int) = if hs X a = true then 49 else 48 := by subst hTS; exact Hch.out
      have HchT := Lib.hid hchT
      have HXe := Lib.hid hXe
      clear hcell hTS Hsz Hch hchT hXe
      go_wp2_with fail
      go_loopw [8, 9] (fun o i wr => ∃ q : Nat, q ≤ l.length ∧ i = .int .i64 q ∧ o = .bool ((l.take q).all (ctB X)) ∧ Keeps w3 wr) (fun _ i _ => l.length - (intOf i).toNat)
      case atStart => exact ⟨0, Nat.zero_le _, rfl, rfl, Below.refl _ _⟩
      case round =>
        obtain ⟨q, hq, rfl, rfl, hb6⟩ := hrel
        by_cases hql : q < l.length
        · obtain ⟨x, hx⟩ : ∃ x, l[q]? = some x := ⟨_, List.getElem?_eq_getElem hql⟩
          obtain ⟨bE, oE, rfl, p1, p2, p3⟩ := HcE.out q x hx
          have p1 := cell_keep p1 (hb1.next (hb4.next hb6))
          have p2 := cell_keep p2 (hb1.next (hb4.next hb6))
          have hc6 := cell_keep hc4 hb6
          have hxb := Hhb.out x (List.mem_of_getElem? hx)
          have hqI : (q : Int) < (l.length : Int) := by omega
          have hstep : (l.take (q + 1)).all (ctB X) = ((l.take q).all (ctB X) && ctB X x) := by rw [take_at l q x hx, List.all_append]; simp
          have Hst := Lib.hid hstep
          clear hstep hx p3
          obtain ⟨xa, xb, xc⟩ := x
          simp only at hxb p1 p2
          obtain ⟨a, rfl⟩ := Int.eq_ofNat_of_zero_le hxb.1
          obtain ⟨e', rfl⟩ := Int.eq_ofNat_of_zero_le hxb.2.2.1
          have had : a < d := by omega
          have hed : e' < d := by omega
          have h1 := HchT.out a had
          have h2 := HchT.out e' hed
          have haI : (a : Int) < (d : Int) := by omega
          have heI : (e' : Int) < (d : Int) := by omega
          have hct : ctB X ((a : Int), (e' : Int), xc) = (hs X a != hs X e') := by unfold ctB; simp
          rw [hct] at Hst
          clear hct hxb
          cases hok : (l.take q).all (ctB X) with
          | false =>
            rw [hok] at Hst
            clear hok h1 h2
            go_wp2_with fail
            go_quiet (fail)
            go_wp2_with fail
            go_roundw
            case rel => exact ⟨q + 1, by omega, by go_num, by rw [Hst.out]; rfl, below_drewN hb6⟩
            case measure => simp [intOf]; omega
          | true =>
            rw [hok] at Hst
            clear hok
            cases ha : hs X a <;> cases he : hs X e'
            all_goals
              rw [ha] at h1 Hst
              rw [he] at h2 Hst
              simp only [if_true, if_false, Bool.false_eq_true] at h1 h2
              clear ha he
              go_wp2_with fail
              go_quiet (fail)
              go_wp2_with fail
              go_roundw
              case rel => exact ⟨q + 1, by omega, by go_num, by rw [Hst.out]; rfl, below_drewN hb6⟩
              case measure => simp [intOf]; omega
        · obtain rfl : q = l.length := by omega
          rw [List.take_length]
          have hc6 := cell_keep hc4 hb6
          cases hok : l.all (ctB X) with
          | false =>
            have Hf := Lib.hid (show fcB d l k = false by rw [HX.out]; exact hok)
            clear hok
            go_wp2_with fail
            go_roundw
            case rel =>
              refine ⟨k + 1, by omega, by go_num, fun j hj => ?_, hb4.next hb6⟩
              by_cases e : j = k
              · subst e; exact Hf.out
              · exact Hno.out j (by omega)
            case measure => simp [intOf]; omega
          | true =>
            have Hf := Lib.hid (show fcB d l k = true by rw [HX.out]; exact hok)
            clear hok
            go_wp2_with fail
            go_ret2
            exact ⟨(Hres.out _).2 (.inl ⟨k, by omega, Hf.out, Hno.out, by rw [HXe.out, HTS.out]; rfl⟩), hb1.next (hb4.next hb6)⟩
    · obtain rfl : k = M := by omega
      go_wp2_with fail
      go_ret2
      exact ⟨(Hres.out _).2 (.inr ⟨Hno.out, rfl⟩), hb1.next hb4⟩
end Go.Proofs.Ytkbidgbnhninnaa
