/- The walk of powers: an iterator that hands over powers of w. -/
import Derived.Test.YtfekggmdhmkemaaDoorGb
import Derived.Test.YtfekggmdhmkemaaDoorRl
import Derived.OwnWalkIn
import Derived.TacticsInMore
import Derived.LoopNIn
import Derived.LoopIn
import Derived.OrdersIn
import Derived.Laws.EntriesVeiled
import Derived.Outline
namespace Go.Proofs.YtfekggmdhmkemaaDoor
open Go.RowKit Go.Shelf
set_option linter.unusedVariables false
set_option linter.unusedSimpArgs false
attribute [local go_sem] Oper.semAt_some

theorem pw_pred (k : Int) : pw (k - 1) = ((pw k).2 - (pw k).1, (pw k).1) := by
  unfold pw
  by_cases h : 1 ≤ k
  · rw [if_pos (by omega), if_pos (by omega)]
    obtain ⟨m, hm⟩ := Int.eq_ofNat_of_zero_le (show 0 ≤ k - 1 by omega)
    obtain rfl : k = (m : Int) + 1 := by omega
    rw [show ((m : Int) + 1 - 1).toNat = m by omega, show ((m : Int) + 1).toNat = m + 1 by omega, pwN]
    apply Prod.ext
    · show _ = _ + _ - _; omega
    · rfl
  · rw [if_neg (by omega)]
    by_cases h0 : k = 0
    · subst h0; rfl
    · rw [if_neg (by omega)]
      rw [show (-(k - 1)).toNat = (-k).toNat + 1 by omega, pwM]
/-- n exponents from the first one down. -/
def pdn (first : Int) (n : Nat) : List Int := (List.range n).map fun i : Nat => first - i
theorem pdn_at (first : Int) (n k : Nat) (h : k < n) : (pdn first n)[k]? = some (first - k) := by simp [pdn, h]
theorem pdn_length (first : Int) (n : Nat) : (pdn first n).length = n := by simp [pdn]
theorem pdn_of (first : Int) (n k : Nat) (x : Int) (h : (pdn first n)[k]? = some x) : k < n ∧ x = first - k := by
  have hk : k < n := by have := (List.getElem?_eq_some_iff.1 h).1; rwa [pdn_length] at this
  rw [pdn_at _ _ _ hk] at h
  exact ⟨hk, (Option.some.inj h).symm⟩

theorem powers_c (a b : Int) (w : World) :
    Calls Tryd.prog 39 #[.int .i64 a, .int .i64 b] w fun e w' => e = .returned (.func (.func 54) #[] #[.pointer (some ⟨w.heap.size, 0, none⟩), .pointer (some ⟨w.heap.size + 1, 0, none⟩)]) ∧ (w.alloc (.cells #[.int .i64 a] 3)).alloc (.cells #[.int .i64 b] 3) = w' := by
  go_enter Tryd.func39, Tryd.ntmps39
  go_wp2
  go_ret
  exact ⟨rfl, rfl⟩

def encP (_ : Nat) (k : Int) : Array Value := #[.int .i64 k, .agg (gv (pw k))]
set_option maxHeartbeats 4000000 in
set_option maxRecDepth 100000 in
theorem powers_iter (first last : Int) (h1 : first ≤ 40) (h2 : -40 ≤ last) (h3 : last ≤ first) (b1 b2 : Nat) (K : Nat → Prop) (hb1 : K b1) (hb2 : K b2) (w0 : World) (hK : ∀ r, K r → r < w0.heap.size)
    (ha1 : At w0 b1 3 #[.int .i64 first]) (ha2 : At w0 b2 3 #[.int .i64 last]) :
    Iter Tryd.prog 54 #[.pointer (some ⟨b1, 0, none⟩), .pointer (some ⟨b2, 0, none⟩)] encP (fun _ _ _ => True) K (pdn first (first + 1 - last).toNat) w0 := by
  intro n q J Jx W hW hsz hJ hJx hY h0
  obtain ⟨m, hm⟩ : ∃ m : Nat, m = (first + 1 - last).toNat := ⟨_, rfl⟩
  rw [← hm] at hY ⊢
  have hme : (m : Int) = first + 1 - last := by omega
  have HJ := Lib.hid hJ
  have HJx := Lib.hid hJx
  have HY := Lib.hid hY
  have cF := (ha1.holds hW hb1).cell 0
  simp only [List.getElem?_toArray, List.getElem?_cons_zero] at cF
  have hF1 : b1 < W.heap.size := by have := hK b1 hb1; omega
  have hF2 : b2 < W.heap.size := by have := hK b2 hb2; omega
  have hKW : ∀ r, K r → r < W.heap.size := fun r hr => by have := hK r hr; omega
  have aF := ha1.holds hW hb1
  have hpo := fun x => powerOf_c first (by omega) h1 x
  have Hme := Lib.hid hme
  clear hJ hJx hY hm hme
  rw [show (#[Value.func (.yield q) #[] #[]] ++ #[Value.pointer (some ⟨b1, 0, none⟩), Value.pointer (some ⟨b2, 0, none⟩)] : Array Value) = #[.func (.yield q) #[] #[], .pointer (some ⟨b1, 0, none⟩), .pointer (some ⟨b2, 0, none⟩)] from rfl]
  refine (callsIn_wide (n := n + 1)).1 ?_
  refine callsIn_of_wp Tryd.func54 rfl trivial ?_ rfl
  simp only [Tryd.ntmps54, List.size_toArray, List.length_cons, List.length_nil, Nat.reduceAdd, Nat.reduceSub, Array.replicate_succ, Array.replicate_zero, List.push_toArray, List.append_toArray, List.nil_append, List.cons_append]
  gi_wp2_with fail
  refine ⟨trivial, (callsIn_wide.2 (hpo _)).mono ?_⟩
  rintro e w1 ⟨rfl, hk1⟩
  have hz1 := hk1.size
  have a1 := aF.later hk1
  have c1 : ∀ o cs, ((w1.alloc o).setRow w1.heap.size cs).cell? ⟨b1, 0, none⟩ = some (.int .i64 first) := fun o cs => by
    have := ((a1.alloc o).rowfar (by omega) cs (g' := w1.heap.size)).cell 0
    simpa using this
  clear hpo cF
  gi_wp2_with (refine in_store_row rfl 24 _ _ rfl w1.heap.size (gv (pw first)) rfl rfl 24 (gv (0, 0)) (At.new w1 24 (gv (0, 0))) (sizeV _) rfl (oneV _) ?_)
  have hX := (At.new w1 24 (gv (0, 0))).row (gv (pw first))
  have hwX : Keeps w1 ((w1.alloc (.cells (gv (0, 0)) 24)).setRow w1.heap.size (gv (pw first))) := below_row (Keeps.alloc (Below.refl _ _) _) (Nat.le_refl _) _
  rw [← gv_zero] at hX hwX
  generalize hXe : (w1.alloc (.cells #[.int .i64 0, .int .i64 0] 24)).setRow w1.heap.size (gv (pw first)) = X at *
  clear hXe c1 a1
  have hWX : Holds K W X := (Holds.of_keeps hk1 K).trans (Holds.of_keeps hwX K)
  have hJ0 : J 0 (fun _ => False) X := HJ.out 0 _ W X h0 ((Holds.of_keeps hk1 _).trans (Holds.of_keeps hwX _))
  clear hk1 hwX h0
  generalize w1.heap.size = g at *
  gi_loopw [5] (fun s wr => ∃ (k : Nat) (M : Nat → Prop), k ≤ m ∧ s = .int .i64 (first - k) ∧ J k M wr ∧ (∀ r, M r → W.heap.size ≤ r ∧ r < wr.heap.size) ∧ ¬ M g ∧ Holds K W wr ∧ At wr g 24 (gv (pw (first - k)))) (fun s _ => (m - (first - intOf s).toNat))
  case atStart => exact ⟨0, fun _ => False, Nat.zero_le _, by simp, hJ0, fun r h => h.elim, id, hWX, by simpa using hX⟩
  case round =>
    obtain ⟨k, M, hkm, rfl, hj, hM, hMg, hh, hA⟩ := hrel
    clear hX hWX hJ0 X
    have hKr := hW.trans hh
    have cL := (ha2.holds hKr hb2).cell 0
    simp only [List.getElem?_toArray, List.getElem?_cons_zero] at cL
    have hmm := Hme.out
    by_cases hlt : k < m
    · have hd : decide (last ≤ first - (k : Int)) = true := by simp; omega
      have hx := pdn_at first m k hlt
      obtain ⟨fn, tmps, assign, body, hy, hR⟩ := HY.out k (first - k) M wr hx hj hM hh trivial
      have Hx := Lib.hid hx
      have Hmm := Lib.hid hmm
      clear hx hmm
      rw [show encP W.heap.size (first - k) = #[.int .i64 (first - (k : Int)), .agg (gv (pw (first - k)))] from rfl] at hy
      gi_wp2_with (refine in_load_row' rfl 24 _ rfl g rfl 24 _ _ hA Tryd.underlying24 rfl (sizeV _) ?_)
      refine hR.mono ?_
      rintro e X' ⟨M2, m1, m2, hh2, hend⟩
      clear hy hR
      have hglt := hA.lt
      have hM2g : ¬ M2 g := fun h => (m2 g h).elim hMg (fun h => by omega)
      have hMb : ∀ r, M2 r → W.heap.size ≤ r ∧ r < X'.heap.size := fun r hr => ⟨(m2 r hr).elim (fun h => (hM r h).1) (fun h => by have := hh.size; omega), m1 r hr⟩
      have hKX : Holds K W X' := hh.trans2 hh2 (fun r _ h => .inl h)
      have hA' : At X' g 24 (gv (pw (first - k))) := hA.holds hh2 (.inr ⟨hz1, hMg⟩)
      have hpm := pw_sm (first - k) (by have := Hmm.out; omega) (by omega)
      have hov := fun x => overW_v (pw (first - k)) hpm x
      rw [show (((pw (first - (k : Int))).2 - (pw (first - (k : Int))).1, (pw (first - (k : Int))).1) : Int × Int) = pw (first - (k : Int) - 1) from (pw_pred _).symm] at hov
      have hfk : IntKind.i64.wrap (first - (k : Int) - 1) = first - (k : Int) - 1 := IntWalk.i64_in _ (by have := Hmm.out; omega)
      clear hpm
      rcases hend with ⟨rfl, hj2⟩ | ⟨rfl, hj2⟩
      · clear hA
        gi_wp2_with (refine in_load_row rfl 24 _ rfl g rfl 24 _ _ hA' Tryd.underlying24 rfl (sizeV _) ?_)
        refine ⟨trivial, (callsIn_wide.2 (hov _)).mono ?_⟩
        rintro e w2 ⟨rfl, hk2⟩
        have hA2 := hA'.later hk2
        clear hov
        gi_wp2_with (refine in_store_row rfl 24 _ _ rfl g (gv (pw (first - k - 1))) rfl rfl 24 _ hA2 (sizeV _) rfl (oneV _) ?_)
        go_roundw
        case rel =>
          have hgM : Holds (fun r => r < W.heap.size ∨ M2 r) X' (w2.setRow g (gv (pw (first - k - 1)))) :=
            (Holds.of_keeps hk2 _).trans ⟨rfl, rfl, rfl, by simp, fun r _ hr => setRow_other w2 g r _ (fun e => hr.elim (fun h => by omega) (fun h => hM2g (e ▸ h)))⟩
          have hgK : Holds K X' (w2.setRow g (gv (pw (first - k - 1)))) :=
            (Holds.of_keeps hk2 _).trans ⟨rfl, rfl, rfl, by simp, fun r _ hr => setRow_other w2 g r _ (fun e => by have := hKW r hr; omega)⟩
          refine ⟨k + 1, M2, by omega, by congr 1; omega, HJ.out _ _ _ _ hj2 hgM, fun r hr => ⟨(hMb r hr).1, by have := (hMb r hr).2; have := hgM.size; omega⟩, hM2g, hKX.trans hgK, ?_⟩
          have := hA2.row (gv (pw (first - k - 1)))
          rwa [show first - ((k + 1 : Nat) : Int) = first - k - 1 by omega]
        case measure => simp [intOf]; have := Hmm.out; omega
      · clear hov
        gi_wp2_with fail
        go_end0
        exact ⟨⟨_, rfl⟩, M2, hMb, .inr ⟨_, hj2⟩⟩
    · obtain rfl : k = m := by omega
      have hd : decide (last ≤ first - (k : Int)) = false := by simp; omega
      clear hmm
      gi_wp2_with fail
      refine ⟨fun _ h => (by cases h), ?_⟩
      gi_wp2_with fail
      go_end0
      exact ⟨⟨_, rfl⟩, M, hM, .inl (by rw [pdn_length]; exact hj)⟩
end Go.Proofs.YtfekggmdhmkemaaDoor
