/- The reference's Clear and IsClear of a beginning of an order. -/
import Derived.Test.YtmljdhckcplcaaaRe
namespace Go.Proofs.Ytmljdhckcplcaaa
open Go.RowKit
set_option linter.unusedVariables false
set_option linter.unusedSimpArgs false

def clAG (l : List Int) : Array Value := match clearF l with | some ((i, j), (k, m)) => ia i j k m | none => ia 0 0 0 0
def clKG (l : List Int) : Bool := (clearF l).isNone
theorem clAG_some {l : List Int} {i j k m : Nat} (h : clearF l = some ((i, j), (k, m))) : clAG l = ia i j k m ∧ clKG l = false := by simp [clAG, clKG, h]
theorem clAG_none {l : List Int} (h : clearF l = none) : clAG l = ia 0 0 0 0 ∧ clKG l = true := by simp [clAG, clKG, h]
set_option maxHeartbeats 4000000 in
set_option maxRecDepth 100000 in
theorem rclearG_c (A : Option Addr) (c : Nat) (l : List Int) (h1 : 1 ≤ l.length) (h16 : l.length ≤ 16) (ho : l.all (hasB 16) = true) (w : World) (hv : RdI w (.slice A l.length c) l) :
    Calls Try.prog 12 #[.slice A l.length c] w fun e w' => e = .returned (.tuple #[.agg (clAG l), .bool (clKG l)]) ∧ Keeps w w' := by
  obtain ⟨_, _, hA, hmx, hcs⟩ := id hv
  cases hA
  have hin : ∀ i, i < l.length → 0 ≤ nth l i ∧ nth l i < 16 := fun i hi => (hasB_iff _ _).1 (List.all_eq_true.1 ho _ (nth_mem l i hi))
  obtain ⟨b, off, x0, rfl, -, -⟩ := hcs 0 (by omega)
  have hcell : ∀ k, k < l.length → w.cell? ⟨b, off + k, none⟩ = some (.int .i64 (nth l k)) := by
    intro k hk
    obtain ⟨b', o', x, h1, h2, rfl⟩ := hcs k hk
    cases h1
    exact h2
  have Hin := Lib.hid hin
  have Hcell := Lib.hid hcell
  have hsome : ∀ i j k m, clearF l = some ((i, j), (k, m)) → clAG l = ia i j k m ∧ clKG l = false := fun i j k m => clAG_some
  have hnone : clearF l = none → clAG l = ia 0 0 0 0 ∧ clKG l = true := clAG_none
  have Hsome := Lib.hid hsome
  have Hnone := Lib.hid hnone
  clear ho hmx hin hcs hcell hv hsome hnone
  go_enter Try.func12, Try.ntmps12
  go_wp2_with fail
  go_loopw [4] (fun i wr => ∃ k : Nat, k ≤ l.length ∧ i = .int .i64 k ∧ NoI l k ∧ Keeps w wr ∧ At wr w.heap.size 24 (ia 0 0 0 0)) (fun i _ => l.length - (intOf i).toNat)
  case atStart => exact ⟨0, Nat.zero_le _, rfl, fun i h => by omega, Keeps.alloc (Below.refl _ _) _, At.new w _ _⟩
  case round =>
    obtain ⟨i, hi, rfl, hI, hb, hat⟩ := hrel
    by_cases hlt : i < l.length
    · go_wp2_with fail
      generalize wr = w3 at *
      have HI := Lib.hid hI
      clear hI
      go_loopw [5] (fun u wr => ∃ j : Nat, i < j ∧ j ≤ l.length ∧ u = .int .i64 j ∧ NoJ l i j ∧ Keeps w wr ∧ At wr w.heap.size 24 (ia 0 0 0 0)) (fun u _ => l.length - (intOf u).toNat)
      case atStart => exact ⟨i + 1, by omega, by omega, by go_num, fun j h1 h2 => by omega, hb, hat⟩
      case round =>
        obtain ⟨j, hij, hj, rfl, hJ, hb2, hat2⟩ := hrel
        by_cases hjt : j < l.length
        · go_wp2_with fail
          generalize wr = w4 at *
          have HJ := Lib.hid hJ
          clear hJ hb hat
          go_loopw [6] (fun u wr => ∃ k : Nat, i < k ∧ k ≤ l.length ∧ u = .int .i64 k ∧ NoK l i j k ∧ Keeps w wr ∧ At wr w.heap.size 24 (ia 0 0 0 0)) (fun u _ => l.length - (intOf u).toNat)
          case atStart => exact ⟨i + 1, by omega, by omega, by go_num, fun k h1 h2 => by omega, hb2, hat2⟩
          case round =>
            obtain ⟨k, hik, hk, rfl, hK, hb3, hat3⟩ := hrel
            obtain ⟨m, hm⟩ : ∃ m : Nat, k + j - i = m := ⟨_, rfl⟩
            have hmI : (k : Int) + j - i = m := by omega
            by_cases hmt : m < l.length
            · have hkt : k < l.length := by omega
              have c1 := cell_keep (Hcell.out j hjt) hb3
              have c2 := cell_keep (Hcell.out i hlt) hb3
              have c3 := cell_keep (Hcell.out m hmt) hb3
              have c4 := cell_keep (Hcell.out k hkt) hb3
              have i1 := Hin.out j hjt
              have i2 := Hin.out i hlt
              have i3 := Hin.out m hmt
              have i4 := Hin.out k hkt
              have HmI := Lib.hid hmI
              have Hm := Lib.hid hm
              have HK := Lib.hid hK
              have r1 : IntKind.i64.wrap ((k : Int) + j) = (k : Int) + j := IntWalk.i64_in _ (by omega)
              have r2 : IntKind.i64.wrap ((k : Int) + j - i) = (m : Int) := by rw [hmI]; exact IntWalk.i64_in _ (by omega)
              have r3 : IntKind.i64.wrap (nth l j - nth l i) = nth l j - nth l i := IntWalk.i64_in _ (by omega)
              have r4 : IntKind.i64.wrap (nth l m - nth l k) = nth l m - nth l k := IntWalk.i64_in _ (by omega)
              by_cases e : nth l j - nth l i = nth l m - nth l k
              · have q1 : (nth l j - nth l i == nth l m - nth l k) = true := by simp [e]
                have HE : Hid (hitP l i j k) := Lib.hid (by unfold hitP; rw [hm]; exact e)
                clear e hK hm
                generalize nth l j = y1 at *
                generalize nth l i = y2 at *
                generalize nth l m = y3 at *
                generalize nth l k = y4 at *
                go_wp2_with fail
                refine wp_region_quiet_lit (by kernel_rfl) (by kernel_rfl) ?_
                iterate 23 go_big_quiet_step (fail)
                refine wpQuiet_nil ?_
                intro _ hw'
                obtain ⟨nq, hw''⟩ := hw'
                subst hw''
                clear r1 r2 r3 r4 c1 c2 c3 c4 q1
                have hat4 : At (wr.drewN nq) w.heap.size 24 (ia 0 0 0 0) := hat3.drewN nq
                have hb4 : Keeps w (wr.drewN nq) := below_drewN hb3
                generalize wr.drewN nq = w5 at *
                go_wp2_with (first
                  | (refine wpList_store_row rfl 24 _ _ rfl w.heap.size (ia i j k m) rfl rfl 24 (ia 0 0 0 0) hat4 (sizeF _ _ _ _) rfl (by simp [ia, Value.oneCell']) ?_))
                obtain ⟨e1, e2⟩ := Hsome.out i j k m (by have hm := Hm.out; rw [← hm]; exact clearF_hit hij hik hjt (by omega) HE.out HI.out HJ.out HK.out)
                refine bodyPost_ret (v := .tuple #[.agg (ia i j k m), .bool false]) (results_row_tmp Try.results12 _ _ w.heap.size _ _ _ rfl (hat4.row _) Try.underlying24 rfl (sizeF _ _ _ _)) rfl ?_
                exact ⟨by rw [e1, e2], below_row hb4 (Nat.le_refl _) _⟩
              · have q1 : (nth l j - nth l i == nth l m - nth l k) = false := by simp [e]
                have HE : Hid (¬ hitP l i j k) := Lib.hid (fun h => e (by unfold hitP at h; rw [hm] at h; exact h))
                clear e hK hm
                generalize nth l j = y1 at *
                generalize nth l i = y2 at *
                generalize nth l m = y3 at *
                generalize nth l k = y4 at *
                go_wp2_with fail
                refine wp_region_quiet_lit (by kernel_rfl) (by kernel_rfl) ?_
                iterate 23 go_big_quiet_step (fail)
                refine wpQuiet_nil ?_
                intro _ hw'
                obtain ⟨nq, hw''⟩ := hw'
                subst hw''
                clear r1 r2 r3 r4 c1 c2 c3 c4 q1
                have hat4 : At (wr.drewN nq) w.heap.size 24 (ia 0 0 0 0) := hat3.drewN nq
                have hb4 : Keeps w (wr.drewN nq) := below_drewN hb3
                generalize wr.drewN nq = w5 at *
                go_wp2_with fail
                go_roundw
                case rel => exact ⟨k + 1, by omega, by omega, by go_num, HK.out.step HE.out, hb4, hat4⟩
                case measure => simp [intOf]; omega
            · have g1 : (l.length : Int) ≤ (k : Int) + j - i := by omega
              have HK := Lib.hid hK
              clear hK hm hmI
              go_wp2_with fail
              go_roundw
              case rel => exact ⟨j + 1, by omega, by omega, by go_num, HK.out.all hij (by omega) HJ.out, hb3, hat3⟩
              case measure => simp [intOf]; omega
        · have hje : l.length ≤ j := by omega
          have HJ := Lib.hid hJ
          clear hJ
          go_wp2_with fail
          go_roundw
          case rel => exact ⟨i + 1, by omega, by go_num, HJ.out.all hje HI.out, hb2, hat2⟩
          case measure => simp [intOf]; omega
    · have hie : i = l.length := by omega
      have HI := Lib.hid hI
      have Hie := Lib.hid hie
      clear hI hie
      go_wp2_with (first
        | (refine wpList_store_row rfl 24 _ _ rfl w.heap.size (ia 0 0 0 0) rfl rfl 24 (ia 0 0 0 0) hat (sizeF _ _ _ _) rfl (by simp [ia, Value.oneCell']) ?_))
      obtain ⟨e1, e2⟩ := Hnone.out (clearF_nohit (by have h := HI.out; rw [Hie.out] at h; exact h))
      refine bodyPost_ret (v := .tuple #[.agg (ia 0 0 0 0), .bool true]) (results_row_tmp Try.results12 _ _ w.heap.size _ _ _ rfl (hat.row _) Try.underlying24 rfl (sizeF _ _ _ _)) rfl ?_
      exact ⟨by rw [e1, e2], below_row hb (Nat.le_refl _) _⟩
set_option maxHeartbeats 1000000 in
set_option maxRecDepth 100000 in
theorem risclearG_c (A : Option Addr) (c n : Nat) (l : List Int) (hn : l.length = n) (h1 : 1 ≤ n) (h16 : n ≤ 16) (ho : l.all (hasB 16) = true) (w : World) (hv : RdI w (.slice A n c) l) :
    Calls Try.prog 31 #[.slice A n c] w fun e w' => e = .returned (.bool (clearB l)) ∧ Keeps w w' := by
  subst hn
  have hc := rclearG_c A c l h1 h16 ho w hv
  have hk : clKG l = clearB l := by rw [clearB_iff, clKG]
  rw [hk] at hc
  have ha : ∃ a b d e, clAG l = ia a b d e := by unfold clAG; split <;> exact ⟨_, _, _, _, rfl⟩
  obtain ⟨a, b, d, e, ha⟩ := ha
  rw [ha] at hc
  clear ha hk ho hv
  go_enter Try.func31, Try.ntmps31
  go_wp2_with (first
    | (refine wpList_store_row rfl 24 _ _ rfl w1.heap.size (ia a b d e) rfl rfl 24 (ia 0 0 0 0) (At.new w1 _ _) (sizeF _ _ _ _) rfl (by simp [ia, Value.oneCell']) ?_)
    | (go_at_call 12; refine hc.mono ?_; rintro e w1 ⟨rfl, hb1⟩))
  go_ret
  exact ⟨rfl, below_row (Keeps.alloc hb1 _) (hb1.size) _⟩
end Go.Proofs.Ytmljdhckcplcaaa
