/- gains. -/
import Derived.Test.YtngonghgkeobhaaBj
namespace Go.Proofs.Ytngonghgkeobhaa
open Go.RowKit
set_option linter.unusedVariables false
set_option linter.unusedSimpArgs false

/-- What an edge adds to the gains of its ends. -/
def dlt (s : Nat) (x : Ed) : Int := if (hs s x.1.toNat != hs s x.2.1.toNat) = true then -x.2.2 else x.2.2
def gstep (s : Nat) (r : List Int) (x : Ed) : List Int :=
  let r1 := r.set x.1.toNat (nth r x.1.toNat + dlt s x)
  r1.set x.2.1.toNat (nth r1 x.2.1.toNat + dlt s x)
/-- The gains of the first 12 vertices. -/
def gnL (s : Nat) (l : List Ed) : List Int := l.foldl (gstep s) (List.replicate 12 0)
theorem gnL_snoc (s : Nat) (l : List Ed) (x : Ed) : gnL s (l ++ [x]) = gstep s (gnL s l) x := by simp [gnL]
theorem gstep_length (s : Nat) (r : List Int) (x : Ed) : (gstep s r x).length = r.length := by simp [gstep]
/-- All entries lie between -b and b. -/
def inB (b : Int) (r : List Int) : Prop := ∀ i : Nat, i < r.length → -b ≤ nth r i ∧ nth r i ≤ b
theorem inB_set (b : Int) (r : List Int) (h : inB b r) (i : Nat) (y : Int) (h1 : -b ≤ y ∧ y ≤ b) : inB b (r.set i y) := by
  intro j hj
  rw [List.length_set] at hj
  by_cases e : i = j
  · subst e; rw [nth_set_same _ _ _ hj]; exact h1
  · rw [nth_set_ne _ _ _ _ e]; exact h j hj
theorem inB_mono {b c : Int} {r : List Int} (h : inB b r) (hc : b ≤ c) : inB c r := fun i hi => by have := h i hi; omega
theorem dlt_in (s : Nat) (x : Ed) (h : -50 ≤ x.2.2 ∧ x.2.2 ≤ 50) : -50 ≤ dlt s x ∧ dlt s x ≤ 50 := by unfold dlt; split <;> omega
theorem gnL_ok (s : Nat) (l : List Ed) (hl : edgesOk l) (k : Nat) (hk : k ≤ l.length) : (gnL s (l.take k)).length = 12 ∧ inB (100 * k) (gnL s (l.take k)) := by
  induction k with
  | zero =>
    have z : ∀ i, nth (List.replicate 12 (0 : Int)) i = 0 := fun i => by unfold nth; rw [List.getElem?_replicate]; split <;> rfl
    exact ⟨by simp [gnL], fun i hi => by rw [show gnL s (l.take 0) = List.replicate 12 0 from rfl, z]; omega⟩
  | succ k ih =>
    obtain ⟨h1, h2⟩ := ih (by omega)
    obtain ⟨x, hx⟩ : ∃ x, l[k]? = some x := ⟨_, List.getElem?_eq_getElem (by omega)⟩
    have hm := hl.2 x (List.mem_of_getElem? hx)
    have hd := dlt_in s x hm.2.2.2.2
    rw [take_at l k x hx, gnL_snoc]
    refine ⟨by rw [gstep_length, h1], ?_⟩
    unfold gstep
    have a1 := h2 x.1.toNat (by omega)
    have m1 : inB (100 * k + 50) ((gnL s (l.take k)).set x.1.toNat (nth (gnL s (l.take k)) x.1.toNat + dlt s x)) := inB_set _ _ (inB_mono h2 (by omega)) _ _ (by omega)
    have a2 := m1 x.2.1.toNat (by rw [List.length_set]; omega)
    exact inB_set _ _ (inB_mono m1 (by omega)) _ _ (by omega)
theorem sizeG (r : List Int) (h : r.length = 12) : (Try.prog.info? 74).map (·.size) = some (ic r).size := by rw [ic_size, h]; show _ = some 12; kernel_rfl
set_option maxHeartbeats 4000000 in
set_option maxRecDepth 100000 in
theorem gains_c (g s : Nat) (v : Value) (l : List Ed) (hl : edgesOk l) (h : s < 65536) (w : World) (hg : w.cell? ⟨g, 1, none⟩ = some v) (hv : RdE w v l) :
    Calls Try.prog 38 #[.pointer (some ⟨g, 0, none⟩), .int .u16 s] w fun e w' => e = .returned (.agg (ic (gnL s l))) ∧ Keeps w w' := by
  obtain ⟨A, c, rfl, hm, hcs⟩ := id hv
  have hl41 := hl.1
  have hgl := block_lt_of_cell hg
  go_enter Try.func38, Try.ntmps38
  go_wp2_with fail
  have g0 : At ((w.alloc (.cells #[.int .i64 0, .int .i64 0, .int .i64 0, .int .i64 0, .int .i64 0, .int .i64 0, .int .i64 0, .int .i64 0, .int .i64 0, .int .i64 0, .int .i64 0, .int .i64 0] 74)).alloc (.cells #[.int .i64 0, .int .i64 0, .int .i64 0, .int .i64 0, .int .i64 0, .int .i64 0, .int .i64 0, .int .i64 0, .int .i64 0, .int .i64 0, .int .i64 0, .int .i64 0] 74)) (w.heap.size + 1) 74 (ic (gnL s (l.take 0))) := At.new2 _ _ _ _
  have r0 : At ((w.alloc (.cells #[.int .i64 0, .int .i64 0, .int .i64 0, .int .i64 0, .int .i64 0, .int .i64 0, .int .i64 0, .int .i64 0, .int .i64 0, .int .i64 0, .int .i64 0, .int .i64 0] 74)).alloc (.cells #[.int .i64 0, .int .i64 0, .int .i64 0, .int .i64 0, .int .i64 0, .int .i64 0, .int .i64 0, .int .i64 0, .int .i64 0, .int .i64 0, .int .i64 0, .int .i64 0] 74)) w.heap.size 74 (ic (List.replicate 12 0)) := (At.new _ _ _).alloc _
  have k0 : Keeps w ((w.alloc (.cells #[.int .i64 0, .int .i64 0, .int .i64 0, .int .i64 0, .int .i64 0, .int .i64 0, .int .i64 0, .int .i64 0, .int .i64 0, .int .i64 0, .int .i64 0, .int .i64 0] 74)).alloc (.cells #[.int .i64 0, .int .i64 0, .int .i64 0, .int .i64 0, .int .i64 0, .int .i64 0, .int .i64 0, .int .i64 0, .int .i64 0, .int .i64 0, .int .i64 0, .int .i64 0] 74)) := Keeps.alloc (Keeps.alloc (Below.refl _ _) _) _
  generalize ((w.alloc (.cells #[.int .i64 0, .int .i64 0, .int .i64 0, .int .i64 0, .int .i64 0, .int .i64 0, .int .i64 0, .int .i64 0, .int .i64 0, .int .i64 0, .int .i64 0, .int .i64 0] 74)).alloc (.cells #[.int .i64 0, .int .i64 0, .int .i64 0, .int .i64 0, .int .i64 0, .int .i64 0, .int .i64 0, .int .i64 0, .int .i64 0, .int .i64 0, .int .i64 0, .int .i64 0] 74)) = W at *
  go_loopw [14] (fun i wr => ∃ k : Nat, k ≤ l.length ∧ i = .int .i64 k ∧ At wr (w.heap.size + 1) 74 (ic (gnL s (l.take k))) ∧ At wr w.heap.size 74 (ic (List.replicate 12 0)) ∧ Keeps w wr) (fun i _ => l.length - (intOf i).toNat)
  case atStart => exact ⟨0, Nat.zero_le _, rfl, g0, r0, k0⟩
  case round =>
    clear g0 r0 k0
    obtain ⟨k, hk, rfl, g0, r0, hb⟩ := hrel
    generalize wr = w0 at *
    have hok := gnL_ok s l hl k hk
    by_cases hlt : k < l.length
    rotate_left
    · obtain rfl : k = l.length := by omega
      rw [List.take_length] at g0 hok
      have hkI : decide ((l.length : Int) < (l.length : Int)) = false := by simp
      clear hcs
      have hsz := sizeG _ hok.1
      have hsz2 : (ic (gnL s l)).size = (ic (List.replicate 12 (0 : Int))).size := by rw [ic_size, ic_size, hok.1]; rfl
      clear hok
      generalize hRR : gnL s l = R at *
      have HRR := Lib.hid hRR
      clear hRR
      go_wp2_with (first
        | (refine wpList_load_row rfl 74 _ rfl _ rfl 74 _ _ _ g0 Try.underlying74 rfl hsz ?_)
        | (refine wpList_store_row rfl 74 _ _ rfl w.heap.size (ic R) rfl rfl 74 (ic (List.replicate 12 0)) r0 hsz hsz2.symm (ic_one _) ?_))
      refine bodyPost_ret (results_cell_row Try.results38 _ _ w.heap.size _ _ _ _ rfl (r0.row _) Try.underlying74 rfl hsz) rfl ⟨by rw [HRR.out], below_row hb (Nat.le_refl _) _⟩
    · obtain ⟨x, hx⟩ : ∃ x, l[k]? = some x := ⟨_, List.getElem?_eq_getElem hlt⟩
      obtain ⟨b, off, rfl, c1, c2, c3⟩ := hcs k x hx
      have hxm := hl.2 x (List.mem_of_getElem? hx)
      have hw := dlt_in s x hxm.2.2.2.2
      have hs2 : gnL s (l.take (k + 1)) = gstep s (gnL s (l.take k)) x := by rw [take_at l k x hx, gnL_snoc]
      have c1 := cell_keep c1 hb
      have c2 := cell_keep c2 hb
      have c3 := cell_keep c3 hb
      have hkI : (k : Int) < (l.length : Int) := by omega
      clear hcs
      obtain ⟨xa, xb, xc⟩ := x
      simp only at hxm c1 c2 c3
      obtain ⟨a, rfl⟩ := Int.eq_ofNat_of_zero_le hxm.1
      obtain ⟨b', rfl⟩ := Int.eq_ofNat_of_zero_le hxm.2.2.1
      have cc := fun z => cuts_c s a b' xc (by omega) (by omega) h z
      have hdl : dlt s ((a : Int), (b' : Int), xc) = if (hs s a != hs s b') = true then -xc else xc := by unfold dlt; simp
      have hs2 : gnL s (l.take (k + 1)) = ((gnL s (l.take k)).set a (nth (gnL s (l.take k)) a + dlt s ((a : Int), (b' : Int), xc))).set b' (nth ((gnL s (l.take k)).set a (nth (gnL s (l.take k)) a + dlt s ((a : Int), (b' : Int), xc))) b' + dlt s ((a : Int), (b' : Int), xc)) := by rw [hs2]; simp [gstep]
      have HS := Lib.hid hs2
      have HK := Lib.hid hlt
      clear hs2
      generalize gnL s (l.take k) = R at *
      obtain ⟨hR, hRb⟩ := hok
      have hRa := hRb a (by omega)
      have m1 : inB (100 * k + 50) (R.set a (nth R a + dlt s ((a : Int), (b' : Int), xc))) := inB_set _ _ (inB_mono hRb (by omega)) _ _ (by omega)
      have hRc := m1 b' (by rw [List.length_set]; omega)
      have q1 : IntKind.i64.wrap (nth R a + dlt s ((a : Int), (b' : Int), xc)) = nth R a + dlt s ((a : Int), (b' : Int), xc) := IntWalk.i64_in _ (by omega)
      have q2 : IntKind.i64.wrap (nth (R.set a (nth R a + dlt s ((a : Int), (b' : Int), xc))) b' + dlt s ((a : Int), (b' : Int), xc)) = nth (R.set a (nth R a + dlt s ((a : Int), (b' : Int), xc))) b' + dlt s ((a : Int), (b' : Int), xc) := IntWalk.i64_in _ (by omega)
      have q0 : IntKind.i64.wrap (-xc) = -xc := IntWalk.i64_in _ (by omega)
      have qk : IntKind.i64.wrap ((k : Int) + 1) = (k : Int) + 1 := IntWalk.i64_in _ (by omega)
      have hz0 := hb.size
      have hg0 := g0.lt
      have e1 : At (w0.alloc (.cells #[.int .i64 a, .int .i64 b', .int .i64 xc] 28)) w0.heap.size 28 (ev ((a : Int), (b' : Int), xc)) := At.new _ _ _
      have g1 := g0.alloc (.cells #[.int .i64 a, .int .i64 b', .int .i64 xc] 28)
      have r1 := r0.alloc (.cells #[.int .i64 a, .int .i64 b', .int .i64 xc] 28)
      have k1 : Keeps w (w0.alloc (.cells #[.int .i64 a, .int .i64 b', .int .i64 xc] 28)) := Keeps.alloc hb _
      clear hlt hk hx hRb hRa hRc m1 hw
      go_upto_region 5 with (fail)
      generalize (w0.alloc (.cells #[.int .i64 a, .int .i64 b', .int .i64 xc] 28)) = w1 at *
      obtain ⟨p1, p2, p3⟩ := cells_ev e1
      cases ht : (hs s a != hs s b') <;> rw [ht] at hdl
      · have hdv : dlt s ((a : Int), (b' : Int), xc) = xc := by rw [hdl]; exact if_neg (by simp)
        rw [hdv] at HS q1 q2
        rw [ht] at cc
        clear hdl hdv ht
        go_wp2_with (first
          | (refine wpList_load_row rfl 28 _ rfl _ rfl 28 _ _ _ e1 Try.underlying28 rfl (sizeE _) ?_)
          | (go_at_call 43
             refine (cc _).mono ?_
             rintro e w2 ⟨rfl, b2⟩
             have k2 := Keeps.next k1 b2
             have e2 := e1.later b2
             have g2 := g1.later b2
             have r2 := r1.later b2
             obtain ⟨p1, p2, p3⟩ := cells_ev e2
             have t1 := g2.int a (by omega)
             have f1 := g2.frozen a
             have g3 := g2.set a (.int .i64 (nth R a + xc))
             rw [ic_set] at g3
             have e3 := e2.far (p := ⟨w.heap.size + 1, a, none⟩) (by simp; omega) (.int .i64 (nth R a + xc))
             obtain ⟨p4, p5, p6⟩ := cells_ev e3
             have r3 := r2.far (p := ⟨w.heap.size + 1, a, none⟩) (by simp) (.int .i64 (nth R a + xc))
             have k3 := Keeps.setp k2 (w.heap.size + 1) (by omega) a (.int .i64 (nth R a + xc))
             have t3 := g3.int b' (by rw [List.length_set]; omega)
             have f3 := g3.frozen b'
             have g4 := g3.set b' (.int .i64 (nth (R.set a (nth R a + xc)) b' + xc))
             rw [ic_set] at g4
             have r4 := r3.far (p := ⟨w.heap.size + 1, b', none⟩) (by simp) (.int .i64 (nth (R.set a (nth R a + xc)) b' + xc))
             have k4 := Keeps.setp k3 (w.heap.size + 1) (by omega) b' (.int .i64 (nth (R.set a (nth R a + xc)) b' + xc))
             clear e2 e3 r2 r3 g2 g3 k2 k3))
        go_roundw
        case rel => exact ⟨k + 1, HK.out, by go_num, by rw [HS.out]; exact g4, r4, k4⟩
        case measure => have := HK.out; simp [intOf]; omega
      · have hdv : dlt s ((a : Int), (b' : Int), xc) = -xc := by rw [hdl]; exact if_pos rfl
        rw [hdv] at HS q1 q2
        rw [ht] at cc
        clear hdl hdv ht
        go_wp2_with (first
          | (refine wpList_load_row rfl 28 _ rfl _ rfl 28 _ _ _ e1 Try.underlying28 rfl (sizeE _) ?_)
          | (go_at_call 43
             refine (cc _).mono ?_
             rintro e w2 ⟨rfl, b2⟩
             have k2 := Keeps.next k1 b2
             have e2 := e1.later b2
             have g2 := g1.later b2
             have r2 := r1.later b2
             obtain ⟨p1, p2, p3⟩ := cells_ev e2
             have t1 := g2.int a (by omega)
             have f1 := g2.frozen a
             have g3 := g2.set a (.int .i64 (nth R a + -xc))
             rw [ic_set] at g3
             have e3 := e2.far (p := ⟨w.heap.size + 1, a, none⟩) (by simp; omega) (.int .i64 (nth R a + -xc))
             obtain ⟨p4, p5, p6⟩ := cells_ev e3
             have r3 := r2.far (p := ⟨w.heap.size + 1, a, none⟩) (by simp) (.int .i64 (nth R a + -xc))
             have k3 := Keeps.setp k2 (w.heap.size + 1) (by omega) a (.int .i64 (nth R a + -xc))
             have t3 := g3.int b' (by rw [List.length_set]; omega)
             have f3 := g3.frozen b'
             have g4 := g3.set b' (.int .i64 (nth (R.set a (nth R a + -xc)) b' + -xc))
             rw [ic_set] at g4
             have r4 := r3.far (p := ⟨w.heap.size + 1, b', none⟩) (by simp) (.int .i64 (nth (R.set a (nth R a + -xc)) b' + -xc))
             have k4 := Keeps.setp k3 (w.heap.size + 1) (by omega) b' (.int .i64 (nth (R.set a (nth R a + -xc)) b' + -xc))
             clear e2 e3 r2 r3 g2 g3 k2 k3))
        go_roundw
        case rel => exact ⟨k + 1, HK.out, by go_num, by rw [HS.out]; exact g4, r4, k4⟩
        case measure => have := HK.out; simp [intOf]; omega
end Go.Proofs.Ytngonghgkeobhaa
