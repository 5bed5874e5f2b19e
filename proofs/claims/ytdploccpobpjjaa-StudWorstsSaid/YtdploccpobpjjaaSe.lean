/- The walk of the recursion of clearOrders. -/
import Derived.Test.YtdploccpobpjjaaSd
namespace Go.Proofs.Ytdploccpobpjjaa
open Go.RowKit Go.Shelf
set_option linter.unusedVariables false
attribute [local go_sem] Oper.semAt_some

/-- What lies in memory while the orders are visited. -/
structure PSt (B l d bd : Nat) (pre lst : List Int) (X : World) : Prop where
  hd : At X bd 3 #[.int .i64 d]
  hy : At X B 37 #[.func (.yield l) #[] #[]]
  hl : At X (B + 1) 3 (ic lst)
  hlen : lst.length = d
  hpre : lst.take pre.length = pre
  hb : At X (B + 2) 22 #[.slice (some ⟨B + 1, 0, none⟩) d d]
  hp : At X (B + 3) 62 #[.func (.func 46) #[] #[.pointer (some ⟨bd, 0, none⟩), .pointer (some ⟨B, 0, none⟩), .pointer (some ⟨B + 2, 0, none⟩), .pointer (some ⟨B + 3, 0, none⟩)]]

/-- What may have turned: the body's blocks, the list. -/
def PK (B : Nat) (K M : Nat → Prop) (r : Nat) : Prop := K r ∨ (B ≤ r ∧ ¬ M r ∧ r ≠ B + 1)
def PEnd (B l d bd : Nat) (K : Nat → Prop) (J Jx : Nat → (Nat → Prop) → World → Prop) (pre : List Int) (k : Nat) (M : Nat → Prop) (X : World) (e : Ending) (X' : World) : Prop :=
  ∃ M' : Nat → Prop, (∀ r, M' r → B + 4 ≤ r ∧ r < X'.heap.size) ∧ (∀ r, M' r → M r ∨ X.heap.size ≤ r) ∧ Holds (PK B K M) X X' ∧ (∃ lst', PSt B l d bd pre lst' X') ∧
    ((e = .returned (.bool true) ∧ J k M' X') ∨ (e = .returned (.bool false) ∧ ∃ k', Jx k' M' X'))

theorem PSt.keep {B l d bd : Nat} {pre lst : List Int} {X X' : World} {K M : Nat → Prop} (h : PSt B l d bd pre lst X) (hh : Holds (fun r => K r ∨ (B ≤ r ∧ ¬ M r)) X X') (hM : ∀ r, M r → B + 4 ≤ r ∧ r < X.heap.size) (hbd : K bd) : PSt B l d bd pre lst X' := by
  have hn : ∀ i, i < 4 → ¬ M (B + i) := fun i hi h => by have := (hM _ h).1; omega
  exact ⟨h.hd.holds hh (.inl hbd), h.hy.holds hh (.inr ⟨by omega, hn 0 (by omega)⟩), h.hl.holds hh (.inr ⟨by omega, hn 1 (by omega)⟩), h.hlen, h.hpre, h.hb.holds hh (.inr ⟨by omega, hn 2 (by omega)⟩), h.hp.holds hh (.inr ⟨by omega, hn 3 (by omega)⟩)⟩
theorem PSt.later {B l d bd : Nat} {pre lst : List Int} {X X' : World} (h : PSt B l d bd pre lst X) (hh : Keeps X X') : PSt B l d bd pre lst X' :=
  ⟨h.hd.later hh, h.hy.later hh, h.hl.later hh, h.hlen, h.hpre, h.hb.later hh, h.hp.later hh⟩
/-- One row more; and taken back. -/
theorem PSt.step {B l d bd : Nat} {pre lst : List Int} {X : World} {s : Nat} (h : PSt B l d bd pre lst X) (hpd : pre.length < d) (hbd : bd < B) :
    PSt B l d bd (pre ++ [(s : Int)]) (lst.set pre.length s) (X.setCell ⟨B + 1, pre.length, none⟩ (.int .i64 s)) := by
  have hl := h.hl.set pre.length (.int .i64 s)
  rw [ic_set] at hl
  have hlen := h.hlen
  refine ⟨h.hd.far (by simp; omega) _, h.hy.far (by simp) _, hl, by simp [hlen], ?_, h.hb.far (by simp) _, h.hp.far (by simp) _⟩
  rw [show (pre ++ [(s : Int)]).length = pre.length + 1 from by simp]
  exact set_take lst pre.length pre s (by omega) h.hpre
theorem PSt.back {B l d bd : Nat} {pre lst : List Int} {X : World} {s : Nat} (h : PSt B l d bd (pre ++ [(s : Int)]) lst X) : PSt B l d bd pre lst X := by
  refine ⟨h.hd, h.hy, h.hl, h.hlen, ?_, h.hb, h.hp⟩
  have e := congrArg (List.take pre.length) h.hpre
  rw [List.take_take, show min pre.length (pre ++ [(s : Int)]).length = pre.length from by simp] at e
  rw [e]; simp
theorem RdI_of_at {X : World} {b : Nat} {lst : List Int} {m c : Nat} (h : At X b 3 (ic lst)) (hm : m ≤ lst.length) (hl : lst.length ≤ maxLen) : RdI X (.slice (some ⟨b, 0, none⟩) m c) (lst.take m) := by
  have hlt : (lst.take m).length = m := by simp; omega
  refine ⟨some ⟨b, 0, none⟩, c, by rw [hlt], by rw [hlt]; omega, fun k hk => ?_⟩
  rw [hlt] at hk
  exact ⟨b, 0, _, rfl, by rw [Nat.zero_add]; exact h.int k (by omega), by show _ = Value.int .i64 _; rw [nth_take _ _ _ hk]⟩

variable {n l B d bd : Nat} {K : Nat → Prop} {J Jx : Nat → (Nat → Prop) → World → Prop} {xs : List (List Int)}
set_option maxHeartbeats 4000000 in
set_option maxRecDepth 100000 in
theorem place_0 (hbd : K bd)
    (pre : List Int) (k : Nat) (M : Nat → Prop) (X : World) (lst : List Int) (hd : pre.length = d) (hX : PSt B l d bd pre lst X) (hM : ∀ r, M r → B + 4 ≤ r ∧ r < X.heap.size)
    (hY : YieldAt Fence.wide (n - 1) Try.prog l #[.slice (some ⟨B + 1, 0, none⟩) d d] X (RoundOk B K J Jx k M X)) :
    Calls Try.prog 46 #[.int .i64 pre.length, .pointer (some ⟨bd, 0, none⟩), .pointer (some ⟨B, 0, none⟩), .pointer (some ⟨B + 2, 0, none⟩), .pointer (some ⟨B + 3, 0, none⟩)] X
      (PEnd B l d bd K J Jx pre (k + 1) M X) := by
  have c1 := hX.hd.cell 0
  have c2 := hX.hy.cell 0
  have c3 := hX.hb.cell 0
  have heq : ((pre.length : Int) == (d : Int)) = true := by simp [hd]
  have Hd := Lib.hid hd
  clear hd
  obtain ⟨fn, tmps, assign, body, hy, hR⟩ := hY
  simp at c1 c2 c3
  refine (callsIn_wide (n := n)).1 ?_
  refine callsIn_of_wp Try.func46 rfl trivial ?_ rfl
  simp only [Try.ntmps46, List.size_toArray, List.length_cons, List.length_nil, Nat.reduceAdd, Nat.reduceSub, Array.replicate_succ, Array.replicate_zero, List.push_toArray, List.append_toArray, List.nil_append, List.cons_append]
  gi_wp2
  refine ⟨fun h => by simp [Fence.wide] at h, hR.mono ?_⟩
  have hlt := hX.hp.lt
  rintro e X' ⟨M', h1, h2, hh, (⟨rfl, hj⟩ | ⟨rfl, hj⟩)⟩
  · gi_wp2
    go_ret
    exact ⟨M', fun r hr => ⟨(h2 r hr).elim (fun h => (hM r h).1) (fun h => by omega), h1 r hr⟩, h2, hh.mono (fun r _ h => h.imp id (fun h => ⟨h.1, h.2.1⟩)), ⟨lst, hX.keep hh hM hbd⟩, .inl ⟨rfl, hj⟩⟩
  · gi_wp2
    go_ret
    exact ⟨M', fun r hr => ⟨(h2 r hr).elim (fun h => (hM r h).1) (fun h => by omega), h1 r hr⟩, h2, hh.mono (fun r _ h => h.imp id (fun h => ⟨h.1, h.2.1⟩)), ⟨lst, hX.keep hh hM hbd⟩, .inr ⟨rfl, _, hj⟩⟩

set_option maxHeartbeats 8000000 in
set_option maxRecDepth 100000 in
theorem place_c (hd5 : d ≤ 7) (hbd : K bd) (hKB : ∀ r, K r → r < B) (W : World) (hJ : ∀ k, Stable B (J k)) (hJx : ∀ k, Stable B (Jx k))
    (hY : ∀ k x M W1, xs[k]? = some x → J k M W1 → (∀ r, M r → B ≤ r ∧ r < W1.heap.size) → Holds K W W1 → At W1 (B + 1) 3 (ic x) →
      YieldAt Fence.wide (n - 1) Try.prog l #[.slice (some ⟨B + 1, 0, none⟩) d d] W1 (RoundOk B K J Jx k M W1)) :
    ∀ (fuel : Nat) (pre : List Int) (k : Nat) (M : Nat → Prop) (X : World) (lst : List Int), pre.length + fuel = d → pre.all (hasB d) = true → Lies xs k (cext d fuel pre) → J k M X → (∀ r, M r → B + 4 ≤ r ∧ r < X.heap.size) → Holds K W X → PSt B l d bd pre lst X →
    Calls Try.prog 46 #[.int .i64 pre.length, .pointer (some ⟨bd, 0, none⟩), .pointer (some ⟨B, 0, none⟩), .pointer (some ⟨B + 2, 0, none⟩), .pointer (some ⟨B + 3, 0, none⟩)] X
      (PEnd B l d bd K J Jx pre (k + (cext d fuel pre).length) M X) := by
  intro fuel
  induction fuel with
  | zero =>
    intro pre k M X lst hlen hall hlie hj hM hW hX
    have hx := hlie 0 pre rfl
    rw [Nat.add_zero] at hx
    have hlst : lst = pre := by rw [← hX.hpre]; exact (List.take_of_length_le (by have := hX.hlen; omega)).symm
    exact place_0 hbd pre k M X lst (by omega) hX hM (hY k pre M X hx hj (fun r hr => ⟨by have := (hM r hr).1; omega, (hM r hr).2⟩) hW (by rw [← hlst]; exact hX.hl))
  | succ fuel ih =>
    intro pre k M X lst hlen hall hlie hj hM hW hX
    have Hih := Lib.hid ih
    clear ih
    have heq : ((pre.length : Int) == (d : Int)) = false := by simp; omega
    have hbB := hKB bd hbd
    have c1 := hX.hd.cell 0
    have hpd : pre.length < d := by omega
    have Hlen := Lib.hid hlen
    clear hlen
    simp at c1
    refine (callsIn_wide (n := n)).1 ?_
    refine callsIn_of_wp Try.func46 rfl trivial ?_ rfl
    simp only [Try.ntmps46, List.size_toArray, List.length_cons, List.length_nil, Nat.reduceAdd, Nat.reduceSub, Array.replicate_succ, Array.replicate_zero, List.push_toArray, List.append_toArray, List.nil_append, List.cons_append]
    gi_wp2
    gi_loopw [15] (fun i wr => ∃ (s : Nat) (M1 : Nat → Prop) (lst1 : List Int), s ≤ d ∧ i = .int .i64 s ∧ J (k + (cextP d fuel pre s).length) M1 wr ∧ (∀ r, M1 r → B + 4 ≤ r ∧ r < wr.heap.size) ∧ (∀ r, M1 r → M r ∨ X.heap.size ≤ r) ∧ Holds (PK B K M) X wr ∧ PSt B l d bd pre lst1 wr) (fun i _ => d - (intOf i).toNat)
    case atStart => exact ⟨0, M, lst, Nat.zero_le _, rfl, hj, hM, fun r h => .inl h, Holds.refl _ _, hX⟩
    case round =>
      obtain ⟨s, M1, lst1, hs, rfl, hj1, hM1, hMM, hh1, hX1⟩ := hrel
      by_cases hlt : s < d
      · have hrd : RdI wr (.slice (some ⟨B + 1, 0, none⟩) pre.length d) pre := by
          have := RdI_of_at (m := pre.length) (c := d) hX1.hl (by rw [hX1.hlen]; omega) (by rw [hX1.hlen]; unfold maxLen; omega)
          rwa [hX1.hpre] at this
        have hcon := contains_c _ pre s wr hrd
        have cb := hX1.hb.cell 0
        have hpdI : (pre.length : Int) ≤ d := by omega
        simp at cb
        by_cases hin : (s : Int) ∈ pre
        · rw [decide_eq_true hin] at hcon
          have hbad : badR pre s = true := by simp [badR, hin]
          have Hbad := Lib.hid hbad
          clear hbad hin
          gi_wp2_with fail
          refine ⟨trivial, fun h => by simp [Fence.wide] at h, (callsIn_wide.2 hcon).mono ?_⟩
          rintro e w1 ⟨rfl, rfl⟩
          gi_wp2_with fail
          go_roundw
          case rel => exact ⟨s + 1, M1, lst1, by omega, by go_num, by rw [cextP_bad _ _ _ _ Hbad.out]; exact hj1, hM1, hMM, hh1, hX1⟩
          case measure => simp [intOf]; omega
        · rw [decide_eq_false hin] at hcon
          have Hin := Lib.hid hin
          clear hin
          gi_wp2_with fail
          refine ⟨trivial, fun h => by simp [Fence.wide] at h, (callsIn_wide.2 hcon).mono ?_⟩
          rintro e w1 ⟨rfl, rfl⟩
          have cl := hX1.hl.int pre.length (by rw [hX1.hlen]; exact hpd)
          have fl := hX1.hl.frozen pre.length
          have hst2 := hX1.step (s := s) hpd hbB
          have hrd2 : RdI (wr.setCell ⟨B + 1, pre.length, none⟩ (.int .i64 s)) (.slice (some ⟨B + 1, 0, none⟩) (pre.length + 1) d) (pre ++ [(s : Int)]) := by
            have := RdI_of_at (m := pre.length + 1) (c := d) hst2.hl (by rw [hst2.hlen]; omega) (by rw [hst2.hlen]; unfold maxLen; omega)
            have hp := hst2.hpre
            rw [show (pre ++ [(s : Int)]).length = pre.length + 1 from by simp] at hp
            rwa [hp] at this
          have hall2 := all_snoc' d pre s hlt hall
          have hlow := low_all _ d (by omega) hall2
          have hlr := fun hx => lastRepeats_c (some ⟨B + 1, 0, none⟩) d (pre ++ [(s : Int)]) hlow (by simp) (wr.setCell ⟨B + 1, pre.length, none⟩ (.int .i64 s)) (by simp; omega) hx
          rw [show (pre ++ [(s : Int)]).length = pre.length + 1 from by simp] at hlr
          have hlr' := hlr hrd2
          have hset : ∀ Kx : Nat → Prop, ¬ Kx (B + 1) → Holds Kx wr (wr.setCell ⟨B + 1, pre.length, none⟩ (.int .i64 s)) := fun Kx h1 => (Holds.refl _ _).set _ h1 _
          have hn1 : ¬ M1 (B + 1) := fun h => by have := (hM1 _ h).1; omega
          have hK1 : ¬ K (B + 1) := fun h => by have := hKB _ h; omega
          clear hlr hcon
          gi_wp2_with fail
          have hcall3 : ∀ X3, Keeps (wr.setCell ⟨B + 1, pre.length, none⟩ (.int .i64 s)) X3 → PSt B l d bd (pre ++ [(s : Int)]) (lst1.set pre.length s) X3 ∧ J (k + (cextP d fuel pre s).length) M1 X3 ∧ (∀ r, M1 r → B + 4 ≤ r ∧ r < X3.heap.size) ∧ Holds (PK B K M) X X3 ∧ wr.heap.size ≤ X3.heap.size := by
            intro X3 hk3
            have hsz := hk3.size
            simp [World.setCell] at hsz
            refine ⟨hst2.later hk3, hJ _ _ _ _ hj1 ((hset _ (by simp [hn1])).trans (Holds.of_keeps hk3 _)), fun r hr => ⟨(hM1 r hr).1, by have := (hM1 r hr).2; omega⟩, (hh1.trans2 (hset (PK B K M) (by simp [PK, hK1])) (fun r _ h => h)).trans (Holds.of_keeps hk3 _), hsz⟩
          by_cases hlb : lastB (pre ++ [(s : Int)]) = true
          · rw [hlb] at hlr'
            have hbad : badR pre s = true := by simp [badR, hlb]
            have Hbad := Lib.hid hbad
            have Hcall3 := Lib.hid hcall3
            clear hbad hlb hcall3
            refine ⟨trivial, fun h => by simp [Fence.wide] at h, (callsIn_wide.2 hlr').mono ?_⟩
            rintro e X3 ⟨rfl, hk3⟩
            gi_wp2_with fail
            refine ⟨fun f h => (by cases h), ?_⟩
            gi_wp2_with fail
            obtain ⟨hP3, hj3, hM3, hh3, hsz3⟩ := Hcall3.out X3 hk3
            exact ⟨⟨s + 1, M1, _, by omega, by go_num, by rw [cextP_bad _ _ _ _ Hbad.out]; exact hj3, hM3, hMM, hh3, hP3.back⟩, by simp [intOf]; omega⟩
          · have hlb' : lastB (pre ++ [(s : Int)]) = false := by simpa using hlb
            rw [hlb'] at hlr'
            have hbad : badR pre s = false := by simp [badR, hlb', Hin.out]
            have Hbad := Lib.hid hbad
            have Hcall3 := Lib.hid hcall3
            clear hbad hlb hlb' hcall3
            refine ⟨trivial, fun h => by simp [Fence.wide] at h, (callsIn_wide.2 hlr').mono ?_⟩
            rintro e X3 ⟨rfl, hk3⟩
            obtain ⟨hP3, hj3, hM3, hh3, hsz3⟩ := Hcall3.out X3 hk3
            have cp := hP3.hp.cell 0
            simp at cp
            have hcall := Hih.out (pre ++ [(s : Int)]) (k + (cextP d fuel pre s).length) M1 X3 (lst1.set pre.length s) (by have := Hlen.out; simp; omega) hall2
              (by rw [cext_succ] at hlie; exact Lies.part hlie hlt Hbad.out) hj3 hM3 (hW.trans2 hh3 (fun r _ h => .inl h)) hP3
            rw [show (((pre ++ [(s : Int)]).length : Nat) : Int) = (pre.length : Int) + 1 from by simp] at hcall
            have Hcall := Lib.hid hcall
            clear hcall
            gi_wp2_with fail
            refine ⟨trivial, fun h => by simp [Fence.wide] at h, (callsIn_wide.2 Hcall.out).mono ?_⟩
            rintro e X' ⟨M', h1, h2, hh, ⟨lst', hX'⟩, hend⟩
            have hP3' : PSt B l d bd pre lst' X' := hX'.back
            have hhX : Holds (PK B K M) X X' := hh3.trans2 hh (fun r hr h => h.imp id (fun h => ⟨h.1, fun hm => (hMM r hm).elim h.2.1 (fun h => by omega), h.2.2⟩))
            have hMM' : ∀ r, M' r → M r ∨ X.heap.size ≤ r := fun r hr => (h2 r hr).elim (hMM r) (fun h => .inr (by have := hh3.size; omega))
            rcases hend with ⟨rfl, hj'⟩ | ⟨rfl, k', hj'⟩
            · gi_wp2_with fail
              go_roundw
              case rel => exact ⟨s + 1, M', lst', by omega, by go_num, by rw [cextP_new _ _ _ _ Hbad.out, List.length_append, ← Nat.add_assoc]; exact hj', h1, hMM', hhX, hP3'⟩
              case measure => simp [intOf]; omega
            · gi_wp2_with fail
              go_ret
              exact ⟨M', h1, hMM', hhX, ⟨lst', hP3'⟩, .inr ⟨rfl, k', hj'⟩⟩
      · have hsd : s = d := by omega
        have Hsd := Lib.hid hsd
        clear hsd
        gi_wp2
        go_ret
        exact ⟨M1, hM1, hMM, hh1, ⟨lst1, hX1⟩, .inl ⟨rfl, by rw [cext_succ]; rw [Hsd.out] at hj1; exact hj1⟩⟩
end Go.Proofs.Ytdploccpobpjjaa
