/- The walk of the recursion of permutations. The walk of permutations: an iterator that hands over all permutations. -/
import Derived.Test.YtikedhkibdeheaaCb
import Derived.Test.YtikedhkibdeheaaCn
import Derived.Test.YtikedhkibdeheaaRl
import Derived.OwnWalkIn
import Derived.TacticsInMore
import Derived.LoopNIn
import Derived.LoopIn
import Derived.Laws.EntriesVeiled
namespace Go.Proofs.Ytikedhkibdeheaa
section
open Go.RowKit Go.Shelf
attribute [local go_sem] Oper.semAt_some

/-- What lies in memory while the permutations are visited. -/
structure PSt (B l d bd : Nat) (pre lst : List Int) (X : World) : Prop where
  hd : At X bd 3 #[.int .i64 d]
  hy : At X B 99 #[.func (.yield l) #[] #[]]
  hl : At X (B + 1) 3 (ic lst)
  hlen : lst.length = d
  hpre : lst.take pre.length = pre
  hb : At X (B + 2) 35 #[.slice (some ⟨B + 1, 0, none⟩) d d]
  hu : At X (B + 3) 107 (tk pre 5)
  hp : At X (B + 4) 65 #[.func (.func 76) #[] #[.pointer (some ⟨bd, 0, none⟩), .pointer (some ⟨B, 0, none⟩), .pointer (some ⟨B + 2, 0, none⟩), .pointer (some ⟨B + 3, 0, none⟩), .pointer (some ⟨B + 4, 0, none⟩)]]

/-- What may have turned: the body's blocks, the list, the marks. -/
def PK (B : Nat) (K M : Nat → Prop) (r : Nat) : Prop := K r ∨ (B ≤ r ∧ ¬ M r ∧ r ≠ B + 1 ∧ r ≠ B + 3)
def PEnd (B l d bd : Nat) (K : Nat → Prop) (J Jx : Nat → (Nat → Prop) → World → Prop) (pre : List Int) (k : Nat) (M : Nat → Prop) (X : World) (e : Ending) (X' : World) : Prop :=
  ∃ M' : Nat → Prop, (∀ r, M' r → B + 5 ≤ r ∧ r < X'.heap.size) ∧ (∀ r, M' r → M r ∨ X.heap.size ≤ r) ∧ Holds (PK B K M) X X' ∧ (∃ lst', PSt B l d bd pre lst' X') ∧
    ((e = .returned (.bool true) ∧ J k M' X') ∨ (e = .returned (.bool false) ∧ ∃ k', Jx k' M' X'))

theorem PSt.keep {B l d bd : Nat} {pre lst : List Int} {X X' : World} {K M : Nat → Prop} (h : PSt B l d bd pre lst X) (hh : Holds (fun r => K r ∨ (B ≤ r ∧ ¬ M r)) X X') (hM : ∀ r, M r → B + 5 ≤ r ∧ r < X.heap.size) (hbd : K bd) : PSt B l d bd pre lst X' := by
  have hn : ∀ i, i < 5 → ¬ M (B + i) := fun i hi h => by have := (hM _ h).1; omega
  exact ⟨h.hd.holds hh (.inl hbd), h.hy.holds hh (.inr ⟨by omega, hn 0 (by omega)⟩), h.hl.holds hh (.inr ⟨by omega, hn 1 (by omega)⟩), h.hlen, h.hpre, h.hb.holds hh (.inr ⟨by omega, hn 2 (by omega)⟩), h.hu.holds hh (.inr ⟨by omega, hn 3 (by omega)⟩), h.hp.holds hh (.inr ⟨by omega, hn 4 (by omega)⟩)⟩

/-- One sheet more; and taken back. -/
theorem PSt.step {B l d bd : Nat} {pre lst : List Int} {X X2 : World} {s : Nat} (h : PSt B l d bd pre lst X) (h2 : (X.setCell ⟨B + 3, s, none⟩ (.bool true)).setCell ⟨B + 1, pre.length, none⟩ (.int .i64 s) = X2) (hpd : pre.length < d) (hbd : bd < B) :
    PSt B l d bd (pre ++ [(s : Int)]) (lst.set pre.length s) X2 := by
  subst h2
  have hu := (h.hu.set s (.bool true)).far (p := ⟨B + 1, pre.length, none⟩) (by simp) (.int .i64 s)
  have e := tk_set pre 5 (s : Int) (by omega)
  rw [Int.toNat_natCast] at e
  rw [e] at hu
  have hl := (h.hl.far (p := ⟨B + 3, s, none⟩) (by simp) (.bool true)).set pre.length (.int .i64 s)
  rw [ic_set] at hl
  have hlen := h.hlen
  refine ⟨(h.hd.far (by simp; omega) _).far (by simp; omega) _, (h.hy.far (by simp) _).far (by simp) _, hl, by simp [hlen], ?_, (h.hb.far (by simp) _).far (by simp) _, hu, (h.hp.far (by simp) _).far (by simp) _⟩
  rw [show (pre ++ [(s : Int)]).length = pre.length + 1 from by simp]
  exact set_take lst pre.length pre s (by omega) h.hpre
theorem PSt.back {B l d bd : Nat} {pre lst : List Int} {X X2 : World} {s : Nat} (h : PSt B l d bd (pre ++ [(s : Int)]) lst X) (h2 : X.setCell ⟨B + 3, s, none⟩ (.bool false) = X2) (hn : ¬ (s : Int) ∈ pre) (hbd : bd < B) :
    PSt B l d bd pre lst X2 := by
  subst h2
  have hu := h.hu.set s (.bool false)
  rw [tk_unset pre 5 s hn] at hu
  refine ⟨h.hd.far (by simp; omega) _, h.hy.far (by simp) _, h.hl.far (by simp) _, h.hlen, ?_, h.hb.far (by simp) _, hu, h.hp.far (by simp) _⟩
  have e := congrArg (List.take pre.length) h.hpre
  rw [List.take_take, show min pre.length (pre ++ [(s : Int)]).length = pre.length from by simp] at e
  rw [e]; simp

variable {n l B d bd : Nat} {K : Nat → Prop} {J Jx : Nat → (Nat → Prop) → World → Prop} {xs : List (List Int)}
set_option maxHeartbeats 4000000 in
set_option maxRecDepth 100000 in
theorem place_0 (hbd : K bd)
    (pre : List Int) (k : Nat) (M : Nat → Prop) (X : World) (lst : List Int) (hd : pre.length = d) (hX : PSt B l d bd pre lst X) (hM : ∀ r, M r → B + 5 ≤ r ∧ r < X.heap.size)
    (hY : YieldAt Fence.wide (n - 1) Try.prog l #[.slice (some ⟨B + 1, 0, none⟩) d d] X (RoundOk B K J Jx k M X)) :
    Calls Try.prog 76 #[.int .i64 pre.length, .pointer (some ⟨bd, 0, none⟩), .pointer (some ⟨B, 0, none⟩), .pointer (some ⟨B + 2, 0, none⟩), .pointer (some ⟨B + 3, 0, none⟩), .pointer (some ⟨B + 4, 0, none⟩)] X
      (PEnd B l d bd K J Jx pre (k + 1) M X) := by
  have c1 := hX.hd.cell 0
  have c2 := hX.hy.cell 0
  have c3 := hX.hb.cell 0
  have heq : ((pre.length : Int) == (d : Int)) = true := by simp [hd]
  have Hd := Lib.hid hd
  clear hd
  obtain ⟨fn, tmps, assign, body, hy, hR⟩ := hY
  simp at c1 c2 c3
  refine (callsIn_wide (n := n)).1 ?_
  refine callsIn_of_wp Try.func76 rfl trivial ?_ rfl
  simp only [Try.ntmps76, List.size_toArray, List.length_cons, List.length_nil, Nat.reduceAdd, Nat.reduceSub, Array.replicate_succ, Array.replicate_zero, List.push_toArray, List.append_toArray, List.nil_append, List.cons_append]
  gi_wp2
  refine ⟨fun h => by simp [Fence.wide] at h, hR.mono ?_⟩
  have hlt := hX.hp.lt
  rintro e X' ⟨M', h1, h2, hh, (⟨rfl, hj⟩ | ⟨rfl, hj⟩)⟩
  · gi_wp2
    go_ret
    exact ⟨M', fun r hr => ⟨(h2 r hr).elim (fun h => (hM r h).1) (fun h => by omega), h1 r hr⟩, h2, hh.mono (fun r _ h => h.imp id (fun h => ⟨h.1, h.2.1⟩)), ⟨lst, hX.keep hh hM hbd⟩, .inl ⟨rfl, hj⟩⟩
  · gi_wp2
    go_ret
    exact ⟨M', fun r hr => ⟨(h2 r hr).elim (fun h => (hM r h).1) (fun h => by omega), h1 r hr⟩, h2, hh.mono (fun r _ h => h.imp id (fun h => ⟨h.1, h.2.1⟩)), ⟨lst, hX.keep hh hM hbd⟩, .inr ⟨rfl, _, hj⟩⟩

set_option maxHeartbeats 8000000 in
set_option maxRecDepth 100000 in
theorem place_c (hd5 : d ≤ 5) (hbd : K bd) (hKB : ∀ r, K r → r < B) (W : World) (hJ : ∀ k, Stable B (J k)) (hJx : ∀ k, Stable B (Jx k))
    (hY : ∀ k x M W1, xs[k]? = some x → J k M W1 → (∀ r, M r → B ≤ r ∧ r < W1.heap.size) → Holds K W W1 → At W1 (B + 1) 3 (ic x) →
      YieldAt Fence.wide (n - 1) Try.prog l #[.slice (some ⟨B + 1, 0, none⟩) d d] W1 (RoundOk B K J Jx k M W1)) :
    ∀ (fuel : Nat) (pre : List Int) (k : Nat) (M : Nat → Prop) (X : World) (lst : List Int), pre.length + fuel = d → Lies xs k (ext d fuel pre) → J k M X → (∀ r, M r → B + 5 ≤ r ∧ r < X.heap.size) → Holds K W X → PSt B l d bd pre lst X →
    Calls Try.prog 76 #[.int .i64 pre.length, .pointer (some ⟨bd, 0, none⟩), .pointer (some ⟨B, 0, none⟩), .pointer (some ⟨B + 2, 0, none⟩), .pointer (some ⟨B + 3, 0, none⟩), .pointer (some ⟨B + 4, 0, none⟩)] X
      (PEnd B l d bd K J Jx pre (k + (ext d fuel pre).length) M X) := by
  intro fuel
  induction fuel with
  | zero =>
    intro pre k M X lst hlen hlie hj hM hW hX
    have hx := hlie 0 pre rfl
    rw [Nat.add_zero] at hx
    have hlst : lst = pre := by rw [← hX.hpre]; exact (List.take_of_length_le (by have := hX.hlen; omega)).symm
    exact place_0 hbd pre k M X lst (by omega) hX hM (hY k pre M X hx hj (fun r hr => ⟨by have := (hM r hr).1; omega, (hM r hr).2⟩) hW (by rw [← hlst]; exact hX.hl))
  | succ fuel ih =>
    intro pre k M X lst hlen hlie hj hM hW hX
    have Hih := Lib.hid ih
    clear ih
    have heq : ((pre.length : Int) == (d : Int)) = false := by simp; omega
    have hbB := hKB bd hbd
    have c1 := hX.hd.cell 0
    have hpd : pre.length < d := by omega
    have Hlen := Lib.hid hlen
    clear hlen
    simp at c1
    refine (callsIn_wide (n := n)).1 ?_
    refine callsIn_of_wp Try.func76 rfl trivial ?_ rfl
    simp only [Try.ntmps76, List.size_toArray, List.length_cons, List.length_nil, Nat.reduceAdd, Nat.reduceSub, Array.replicate_succ, Array.replicate_zero, List.push_toArray, List.append_toArray, List.nil_append, List.cons_append]
    gi_wp2
    gi_loopw [17] (fun i wr => ∃ (s : Nat) (M1 : Nat → Prop) (lst1 : List Int), s ≤ d ∧ i = .int .i64 s ∧ J (k + (extP d fuel pre s).length) M1 wr ∧ (∀ r, M1 r → B + 5 ≤ r ∧ r < wr.heap.size) ∧ (∀ r, M1 r → M r ∨ X.heap.size ≤ r) ∧ Holds (PK B K M) X wr ∧ PSt B l d bd pre lst1 wr) (fun i _ => d - (intOf i).toNat)
    case atStart => exact ⟨0, M, lst, Nat.zero_le _, rfl, hj, hM, fun r h => .inl h, Holds.refl _ _, hX⟩
    case round =>
      obtain ⟨s, M1, lst1, hs, rfl, hj1, hM1, hMM, hh1, hX1⟩ := hrel
      by_cases hlt : s < d
      · have h5 : s < 5 := by omega
        by_cases hin : (s : Int) ∈ pre
        · have cu : wr.cell? ⟨B + 3, s, none⟩ = some (.bool true) := by rw [hX1.hu.cell, tk_at _ _ _ h5]; simp [hin]
          gi_wp2
          go_roundw
          case rel => exact ⟨s + 1, M1, lst1, by omega, by go_num, by rw [extP_in _ _ _ _ hin]; exact hj1, hM1, hMM, hh1, hX1⟩
          case measure => simp [intOf]; omega
        · have cu : wr.cell? ⟨B + 3, s, none⟩ = some (.bool false) := by rw [hX1.hu.cell, tk_at _ _ _ h5]; simp [hin]
          have fu := hX1.hu.frozen s
          have cl := hX1.hl.int pre.length (by rw [hX1.hlen]; exact hpd)
          have fl := hX1.hl.frozen pre.length
          have cb := hX1.hb.cell 0
          have cp := hX1.hp.cell 0
          simp at cb cp
          have hw := hX1.hp.lt
          obtain ⟨X2, hX2⟩ : ∃ X2, (wr.setCell ⟨B + 3, s, none⟩ (.bool true)).setCell ⟨B + 1, pre.length, none⟩ (.int .i64 s) = X2 := ⟨_, rfl⟩
          have hst2 := hX1.step hX2 hpd hbB
          have hs2 : X2.heap.size = wr.heap.size := by rw [← hX2]; simp [World.setCell]
          have hset : ∀ Kx : Nat → Prop, ¬ Kx (B + 1) → ¬ Kx (B + 3) → Holds Kx wr X2 := fun Kx h1 h3 => by rw [← hX2]; exact ((Holds.refl _ _).set _ h3 _).set _ h1 _
          have hn1 : ¬ M1 (B + 1) := fun h => by have := (hM1 _ h).1; omega
          have hn3 : ¬ M1 (B + 3) := fun h => by have := (hM1 _ h).1; omega
          have hK1 : ¬ K (B + 1) := fun h => by have := hKB _ h; omega
          have hK3 : ¬ K (B + 3) := fun h => by have := hKB _ h; omega
          have hcall := Hih.out (pre ++ [(s : Int)]) (k + (extP d fuel pre s).length) M1 X2 (lst1.set pre.length s) (by have := Hlen.out; simp; omega)
            (by rw [ext_succ] at hlie; exact Lies.part hlie hlt hin)
            (hJ _ _ _ _ hj1 (hset _ (by simp [hn1]) (by simp [hn3]))) (fun r hr => by rw [hs2]; exact hM1 r hr) ((hW.trans2 hh1 (fun r _ h => .inl h)).trans2 (hset _ hK1 hK3) (fun r _ h => h)) hst2
          rw [show (((pre ++ [(s : Int)]).length : Nat) : Int) = (pre.length : Int) + 1 from by simp] at hcall
          have Hcall := Lib.hid hcall
          have HX2 := Lib.hid hX2
          clear hcall hst2 hX2
          gi_wp2_with fail
          rw [HX2.out]
          refine ⟨trivial, fun h => by simp [Fence.wide] at h, (callsIn_wide.2 Hcall.out).mono ?_⟩
          rintro e X' ⟨M', h1, h2, hh, ⟨lst', hX'⟩, hend⟩
          have cu' : X'.cell? ⟨B + 3, s, none⟩ = some (.bool true) := by rw [hX'.hu.cell, tk_at _ _ _ h5]; simp
          have fu' := hX'.hu.frozen s
          have hlw := hX'.hp.lt
          have hn1' : ¬ M' (B + 1) := fun h => by have := (h1 _ h).1; omega
          have hn3' : ¬ M' (B + 3) := fun h => by have := (h1 _ h).1; omega
          obtain ⟨X3, hX3⟩ : ∃ X3, X'.setCell ⟨B + 3, s, none⟩ (.bool false) = X3 := ⟨_, rfl⟩
          have hs3 : X3.heap.size = X'.heap.size := by rw [← hX3]; simp [World.setCell]
          have hset3 : ∀ Kx : Nat → Prop, ¬ Kx (B + 3) → Holds Kx X' X3 := fun Kx h3 => by rw [← hX3]; exact (Holds.refl _ _).set _ h3 _
          have hP3 : PSt B l d bd pre lst' X3 := hX'.back hX3 hin hbB
          have hhX : Holds (PK B K M) X X3 := ((hh1.trans2 (hset (PK B K M) (by simp [PK, hK1]) (by simp [PK, hK3])) (fun r _ h => h)).trans2 hh (fun r hr h => h.imp id (fun h => ⟨h.1, fun hm => (hMM r hm).elim h.2.1 (fun h => by omega), h.2.2⟩))).trans2 (hset3 (PK B K M) (by simp [PK, hK3])) (fun r _ h => h)
          have hMM' : ∀ r, M' r → M r ∨ X.heap.size ≤ r := fun r hr => (h2 r hr).elim (hMM r) (fun h => .inr (by have := hh1.size; omega))
          have hb' : ∀ r, M' r → B + 5 ≤ r ∧ r < X3.heap.size := fun r hr => by rw [hs3]; exact h1 r hr
          have HX3 := Lib.hid hX3
          clear hX3 HX2
          rcases hend with ⟨rfl, hj'⟩ | ⟨rfl, k', hj'⟩
          · have hj3 := hJ _ _ _ _ hj' (hset3 _ (by simp [hn3']))
            gi_wp2
            rw [HX3.out]
            go_roundw
            case rel => exact ⟨s + 1, M', lst', by omega, by go_num, by rw [extP_new _ _ _ _ hin, List.length_append, ← Nat.add_assoc]; exact hj3, hb', hMM', hhX, hP3⟩
            case measure => simp [intOf]; omega
          · have hj3 := hJx _ _ _ _ hj' (hset3 _ (by simp [hn3']))
            gi_wp2
            rw [HX3.out]
            go_ret
            exact ⟨M', hb', hMM', hhX, ⟨lst', hP3⟩, .inr ⟨rfl, k', hj3⟩⟩
      · have hsd : s = d := by omega
        have Hsd := Lib.hid hsd
        clear hsd
        gi_wp2
        go_ret
        exact ⟨M1, hM1, hMM, hh1, ⟨lst1, hX1⟩, .inl ⟨rfl, by rw [ext_succ]; rw [Hsd.out] at hj1; exact hj1⟩⟩
end
section
open Go.RowKit Go.Shelf

theorem makeD1 (w : World) : (Instr.makeSlice 35 (.int .i64 1) (.int .i64 1)).run Try.prog w = .ok (.slice (some ⟨w.heap.size, 0, none⟩) 1 1) (w.alloc (.cells (ic (List.replicate 1 0)) 3)) := by kernel_rfl
theorem makeD2 (w : World) : (Instr.makeSlice 35 (.int .i64 2) (.int .i64 2)).run Try.prog w = .ok (.slice (some ⟨w.heap.size, 0, none⟩) 2 2) (w.alloc (.cells (ic (List.replicate 2 0)) 3)) := by kernel_rfl
theorem makeD3 (w : World) : (Instr.makeSlice 35 (.int .i64 3) (.int .i64 3)).run Try.prog w = .ok (.slice (some ⟨w.heap.size, 0, none⟩) 3 3) (w.alloc (.cells (ic (List.replicate 3 0)) 3)) := by kernel_rfl
theorem makeD4 (w : World) : (Instr.makeSlice 35 (.int .i64 4) (.int .i64 4)).run Try.prog w = .ok (.slice (some ⟨w.heap.size, 0, none⟩) 4 4) (w.alloc (.cells (ic (List.replicate 4 0)) 3)) := by kernel_rfl
theorem makeD5 (w : World) : (Instr.makeSlice 35 (.int .i64 5) (.int .i64 5)).run Try.prog w = .ok (.slice (some ⟨w.heap.size, 0, none⟩) 5 5) (w.alloc (.cells (ic (List.replicate 5 0)) 3)) := by kernel_rfl
theorem makeD (d : Nat) (h1 : 1 ≤ d) (h5 : d ≤ 5) (w : World) : (Instr.makeSlice 35 (.int .i64 d) (.int .i64 d)).run Try.prog w = .ok (.slice (some ⟨w.heap.size, 0, none⟩) d d) (w.alloc (.cells (ic (List.replicate d 0)) 3)) := by
  have : d = 1 ∨ d = 2 ∨ d = 3 ∨ d = 4 ∨ d = 5 := by omega
  rcases this with rfl | rfl | rfl | rfl | rfl
  · exact makeD1 w
  · exact makeD2 w
  · exact makeD3 w
  · exact makeD4 w
  · exact makeD5 w

set_option maxHeartbeats 2000000 in
theorem permutations_c (d : Int) (w : World) :
    Calls Try.prog 64 #[.int .i64 d] w fun e w' => e = .returned (.func (.func 75) #[] #[.pointer (some ⟨w.heap.size, 0, none⟩)]) ∧ w.alloc (.cells #[.int .i64 d] 3) = w' := by
  go_enter Try.func64, Try.ntmps64
  go_wp2
  go_ret
  exact ⟨rfl, rfl⟩

set_option maxHeartbeats 4000000 in
set_option maxRecDepth 100000 in
theorem perms_iter (d : Nat) (h1 : 1 ≤ d) (h5 : d ≤ 5) (bd : Nat) (K : Nat → Prop) (hbd : K bd) (w0 : World) (hK : ∀ r, K r → r < w0.heap.size) (hd : At w0 bd 3 #[.int .i64 d]) :
    Iter Try.prog 75 #[.pointer (some ⟨bd, 0, none⟩)] (fun B (_ : List Int) => #[.slice (some ⟨B + 1, 0, none⟩) d d]) (fun B x W1 => At W1 (B + 1) 3 (ic x)) K (perms d) w0 := by
  intro n l J Jx W hW hsz hJ hJx hY h0
  have hdW := hd.holds hW hbd
  have hplace := place_c (n := n + 1) (l := l) (B := W.heap.size) (d := d) (bd := bd) (K := K) (J := J) (Jx := Jx) (xs := perms d) h5 hbd (fun r hr => by have := hK r hr; omega) W hJ hJx hY
    d [] 0 (fun _ => False)
  rw [show (([] : List Int).length : Int) = 0 from rfl] at hplace
  have Hplace := Lib.hid hplace
  have HJ := Lib.hid hJ
  have HY := Lib.hid hY
  have hmk := makeD d h1 h5
  have c0 : ∀ o, (W.alloc o).cell? ⟨bd, 0, none⟩ = some (.int .i64 d) := fun o => (hdW.alloc o).cell 0
  clear hplace hJ hJx hY
  rw [show (#[Value.func (.yield l) #[] #[]] ++ #[Value.pointer (some ⟨bd, 0, none⟩)] : Array Value) = #[.func (.yield l) #[] #[], .pointer (some ⟨bd, 0, none⟩)] from rfl]
  go_enter Try.func75, Try.ntmps75
  go_wp2_with fail
  refine (Hplace.out _ (List.replicate d 0) (by simp) (fun i x h => by rw [Nat.zero_add]; exact h) ?hj (fun r h => h.elim) ?hk ?hs).mono ?_
  case hj => exact HJ.out 0 _ _ _ h0 (((((((Holds.refl _ W).alloc _).alloc _).alloc _).alloc _).alloc _).mono (fun _ _ h => h))
  case hk => exact (((((Holds.refl K W).alloc _).alloc _).alloc _).alloc _).alloc _
  case hs =>
    exact ⟨((((hdW.alloc _).alloc _).alloc _).alloc _).alloc _, ((((At.new W _ _).alloc _).alloc _).alloc _).alloc _, (((At.new2 W _ _ _).alloc _).alloc _).alloc _, by simp, by simp,
      ((At.new' _ _ (by simp) _ _).alloc _).alloc _, (At.new' _ _ (by simp) _ (tk [] 5)).alloc _, At.new' _ _ (by simp) _ _⟩
  rintro e X' ⟨M', h1', h2', hh, _, hend⟩
  have hb : ∀ r, M' r → W.heap.size ≤ r ∧ r < X'.heap.size := fun r hr => ⟨by have := (h1' r hr).1; omega, (h1' r hr).2⟩
  rcases hend with ⟨rfl, hj⟩ | ⟨rfl, k, hj⟩
  · go_wp2_with fail
    go_end0
    exact ⟨⟨_, rfl⟩, M', hb, .inl (by rw [Nat.zero_add] at hj; exact hj)⟩
  · go_wp2_with fail
    go_end0
    exact ⟨⟨_, rfl⟩, M', hb, .inr ⟨k, hj⟩⟩
end
end Go.Proofs.Ytikedhkibdeheaa
