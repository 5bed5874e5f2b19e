/- The odd cycles of a graph, an iterator. -/
import Derived.Test.YtngonghgkeobhaaBq
namespace Go.Proofs.Ytngonghgkeobhaa
open Go.RowKit Go.Shelf
set_option linter.unusedVariables false
set_option linter.unusedSimpArgs false
attribute [local go_sem] Oper.semAt_some

theorem run_store_func {P : Program} {w : World} {a : Addr} {m : Mode} (f : Fn) (x y : Array Value) : (store a (.func f x y) m).run P w = stored P w a (.func f x y) m := run_store P w a _ m rfl
attribute [local go_sem] run_store_func
def ocA (n : Nat) (jt : List Int) (lg s : Nat) : List (List Nat × Nat) := (List.range s).flatMap fun x => oc n jt lg n [x] 0
theorem ocA_succ (n : Nat) (jt : List Int) (lg s : Nat) : ocA n jt lg (s + 1) = ocA n jt lg s ++ oc n jt lg n [s] 0 := by simp [ocA, List.range_succ]
theorem ocA_prefix (n : Nat) (jt : List Int) (lg : Nat) : ∀ (m s : Nat), s ≤ m → ∃ t, ocA n jt lg m = ocA n jt lg s ++ t := by
  intro m
  induction m with
  | zero => intro s h; exact ⟨[], by rw [List.append_nil, show s = 0 from by omega]⟩
  | succ m ih =>
    intro s h
    by_cases e : s = m + 1
    · exact ⟨[], by rw [e, List.append_nil]⟩
    · obtain ⟨t, ht⟩ := ih s (by omega)
      exact ⟨t ++ oc n jt lg n [m] 0, by rw [ocA_succ, ht, List.append_assoc]⟩
theorem ocA_lies (n : Nat) (jt : List Int) (lg s : Nat) (h : s < n) : Lies (ocA n jt lg n) (ocA n jt lg s).length (oc n jt lg n [s] 0) := by
  obtain ⟨t, ht⟩ := ocA_prefix n jt lg n (s + 1) (by omega)
  have h0 : Lies (ocA n jt lg n) 0 (ocA n jt lg n) := fun i x hx => by rw [Nat.zero_add]; exact hx
  rw [ocA_succ, List.append_assoc] at ht
  have h1 := h0
  unfold Lies at h1
  have h2 : Lies (ocA n jt lg n) 0 (ocA n jt lg s ++ (oc n jt lg n [s] 0 ++ t)) := fun i x hx => h1 i x (by rw [ht]; exact hx)
  have h3 := h2.right.left
  rwa [Nat.zero_add] at h3
theorem oddCycles_c (G : Nat) (lg : Int) (w : World) :
    Calls Try.prog 49 #[.pointer (some ⟨G, 0, none⟩), .int .i64 lg] w fun e w' => e = .returned (.func (.func 63) #[] #[.pointer (some ⟨w.heap.size, 0, none⟩), .pointer (some ⟨w.heap.size + 1, 0, none⟩)]) ∧ (w.alloc (.cells #[.pointer (some ⟨G, 0, none⟩)] 58)).alloc (.cells #[.int .i64 lg] 3) = w' := by
  go_enter Try.func49, Try.ntmps49
  go_wp2
  go_ret
  exact ⟨rfl, rfl⟩
def encC (_ : Nat) (x : List Nat × Nat) : Array Value := #[.agg (ic (cyc x.1)), .int .u64 x.2]
set_option maxHeartbeats 4000000 in
set_option maxRecDepth 100000 in
theorem odd_iter (n lg bg bl G : Nat) (V : Value) (jt : List Int) (hn : n ≤ 12) (hjt : jok jt) (K : Nat → Prop) (k1 : K bg) (k2 : K G) (k3 : K bl) (w0 : World) (hK : ∀ r, K r → r < w0.heap.size)
    (hg : At w0 bg 58 #[.pointer (some ⟨G, 0, none⟩)]) (hG : At w0 G 103 (gc n V jt)) (hl : At w0 bl 3 #[.int .i64 lg]) :
    Iter Try.prog 63 #[.pointer (some ⟨bg, 0, none⟩), .pointer (some ⟨bl, 0, none⟩)] encC (fun _ _ _ => True) K (ocA n jt lg n) w0 := by
  intro m q J Jx W hW hsz hJ hJx hY h0
  have hKW : ∀ r, K r → r < W.heap.size := fun r hr => by have := hK r hr; omega
  have hext := fun s => ext_c (m := m) (l := q) (B := W.heap.size) (n := n) (lg := lg) (bg := bg) (bl := bl) (G := G) (V := V) (jt := jt) (K := K) (J := J) (Jx := Jx) (xs := ocA n jt lg n) hn hjt k1 k2 k3 hKW W hJ hJx (fun k x M W1 a b c d => hY k x M W1 a b c d trivial) n [s] 0
  have Hext := Lib.hid hext
  have HJ := Lib.hid hJ
  clear hext hY hJ hJx
  have hg' := hg.holds hW k1
  have hG' := hG.holds hW k2
  have hl' := hl.holds hW k3
  rw [show (#[Value.func (.yield q) #[] #[]] ++ #[Value.pointer (some ⟨bg, 0, none⟩), Value.pointer (some ⟨bl, 0, none⟩)] : Array Value) = #[.func (.yield q) #[] #[], .pointer (some ⟨bg, 0, none⟩), .pointer (some ⟨bl, 0, none⟩)] from rfl]
  refine (callsIn_wide (n := m + 1)).1 ?_
  refine callsIn_of_wp Try.func63 rfl trivial ?_ rfl
  simp only [Try.ntmps63, List.size_toArray, List.length_cons, List.length_nil, Nat.reduceAdd, Nat.reduceSub, Array.replicate_succ, Array.replicate_zero, List.push_toArray, List.append_toArray, List.nil_append, List.cons_append]
  have cg0 := hg'.cell 0
  simp only [List.getElem?_toArray, List.getElem?_cons_zero] at cg0
  have cn0 : W.cell? ⟨G, 0, none⟩ = some (.int .i64 n) := hG'.cell 0
  have hgl := hg'.lt
  have hGl := hG'.lt
  have aE := At.new2 W (.cells #[.func (.yield q) #[] #[]] 111) 111 #[.nilFunc]
  have aC := aE.cell 0
  have aF := aE.frozen 0
  simp only [List.getElem?_toArray, List.getElem?_cons_zero] at aC
  gi_wp2_with fail
  obtain ⟨Y, hY⟩ : ∃ Y, ((W.alloc (.cells #[.func (.yield q) #[] #[]] 111)).alloc (.cells #[.func (.func 64) #[] #[.pointer (some ⟨bg, 0, none⟩), .pointer (some ⟨W.heap.size, 0, none⟩), .pointer (some ⟨bl, 0, none⟩), .pointer (some ⟨W.heap.size + 1, 0, none⟩)]] 111)) = Y := ⟨_, rfl⟩
  have kY : Keeps W Y := by rw [← hY]; exact Keeps.alloc (Keeps.alloc (Below.refl _ _) _) _
  have hXY : OSt W.heap.size q n lg bg bl G V jt Y := ⟨hg'.later kY, hG'.later kY, by rw [← hY]; exact (At.new W _ _).alloc _, hl'.later kY, by rw [← hY]; exact At.new2 W _ _ _⟩
  rw [hY]
  clear hY aE aC aF cg0 cn0
  have hKY := Holds.of_keeps kY K
  gi_loopw [11] (fun i wr => ∃ (s : Nat) (M : Nat → Prop), s ≤ n ∧ i = .int .i64 s ∧ J (ocA n jt lg s).length M wr ∧ OSt W.heap.size q n lg bg bl G V jt wr ∧ (∀ r, M r → W.heap.size + 2 ≤ r ∧ r < wr.heap.size) ∧ Holds K W wr) (fun i _ => n - (intOf i).toNat)
  case atStart => exact ⟨0, fun _ => False, Nat.zero_le _, rfl, HJ.out 0 _ _ _ h0 ((Holds.of_keeps kY _)), hXY, fun r h => h.elim, hKY⟩
  case round =>
    obtain ⟨s, M, hs, rfl, hj, hX5, hM, hh⟩ := hrel
    by_cases hlt : s < n
    · have hlies := ocA_lies n jt lg s hlt
      have hgo := ocA_succ n jt lg s
      have hwith := fun Z => with_c [] s (by decide) Z
      rw [List.nil_append] at hwith
      rw [show Value.agg (ic (cyc [])) = .agg #[.int .i64 0, .int .i64 0, .int .i64 0, .int .i64 0, .int .i64 0, .int .i64 0, .int .i64 0, .int .i64 0, .int .i64 0, .int .i64 0, .int .i64 0, .int .i64 0, .int .i64 0] from rfl] at hwith
      have hB2 : W.heap.size + 2 ≤ wr.heap.size := by have := hX5.he.lt; omega
      obtain ⟨kk, hkk⟩ : ∃ kk, (ocA n jt lg s).length + (oc n jt lg n [s] 0).length = kk := ⟨_, rfl⟩
      have hrec : ∀ Z, Keeps wr Z → Calls Try.prog 64 #[.agg (ic (cyc [s])), .int .u64 0, .pointer (some ⟨bg, 0, none⟩), .pointer (some ⟨W.heap.size, 0, none⟩), .pointer (some ⟨bl, 0, none⟩), .pointer (some ⟨W.heap.size + 1, 0, none⟩)] Z
          (fun e w' => ∃ b : Bool, e = .returned (.bool b) ∧ OEnd W.heap.size q n lg bg bl G V jt K J Jx kk M wr (.returned (.bool b)) w') := fun Z hZ => by
        have h1 := Hext.out s (ocA n jt lg s).length M Z (by simp) ⟨by simp, by simp, fun x hx => by have : x = s := by simpa using hx
                                                                                                     omega⟩ (by decide) hlies (HJ.out _ _ _ _ hj (Holds.of_keeps hZ _)) (fun r h => ⟨(hM r h).1, Nat.lt_of_lt_of_le (hM r h).2 hZ.size⟩)
          (hh.trans (Holds.of_keeps hZ _)) (hX5.later hZ)
        rw [hkk] at h1
        refine h1.mono ?_
        rintro e w' ⟨M', p1, p2, p3, p4, p5⟩
        rcases p5 with ⟨rfl, p5⟩ | ⟨rfl, p5⟩
        · exact ⟨true, rfl, M', p1, fun r h => (p2 r h).imp id (fun h => Nat.le_trans hZ.size h), (Holds.of_keeps hZ _).trans p3, p4, .inl ⟨rfl, p5⟩⟩
        · exact ⟨false, rfl, M', p1, fun r h => (p2 r h).imp id (fun h => Nat.le_trans hZ.size h), (Holds.of_keeps hZ _).trans p3, p4, .inr ⟨rfl, p5⟩⟩
      have HG := Lib.hid hgo
      have Hkk := Lib.hid hkk
      have hsI : (s : Int) < n := by omega
      clear hlies hgo hkk
      gi_wp2_with fail
      refine region_earlyIn [] (G := Bool × Bool) (f := ?f) (fun g => [.func (.func 64) #[] #[.pointer (some ⟨bg, 0, none⟩), .pointer (some ⟨W.heap.size, 0, none⟩), .pointer (some ⟨bl, 0, none⟩), .pointer (some ⟨W.heap.size + 1, 0, none⟩)], .agg #[.int .i64 0, .int .i64 0, .int .i64 0, .int .i64 0, .int .i64 0, .int .i64 0, .int .i64 0, .int .i64 0, .int .i64 0, .int .i64 0, .int .i64 0, .int .i64 0, .int .i64 0], .int .i64 s, .agg (ic (cyc [s])), .bool g.1, .bool g.2])
        (fun g L w' => (L 4 = false → Keeps wr w') ∧ (L 4 = true → OEnd W.heap.size q n lg bg bl G V jt K J Jx kk M wr (.returned (.bool g.1)) w') ∧ (L 5 = true → g.2 = !g.1)) (true, true) (fun _ => ?hf) (by kernel_rfl) (by kernel_rfl) (by kernel_rfl) (fun _ h => by cases h) ⟨fun _ => keeps_dr (Below.refl _ _), fun h => (by cases h), fun h => (by cases h)⟩ ?steps ?fin
      case hf =>
        simp only [fill, List.toList_toArray, List.zip_cons_cons, List.zip_nil_left, List.zip_nil_right, List.foldl_cons, List.foldl_nil, Act.put, List.setIfInBounds_toArray, List.set_cons_succ, List.set_cons_zero]
        exact rfl
      case steps =>
        refine StepsIn.cons rfl (fun g L w' hL hr hc hF => ?_) ?_
        · obtain ⟨f1, f2, f3⟩ := hF
          have h4 : L 4 = false := hc.not 4 0 rfl rfl hL
          have hk9 := f1 h4
          have ce := (hX5.he.later hk9).cell 0
          simp only [List.getElem?_toArray, List.getElem?_cons_zero] at ce
          refine StepIn.go rfl (fun K0 hK0 => ?_)
          go_simp
          exact hK0 g _ ⟨fun _ => hk9, fun h => (by have h9 : L 4 = true := h; rw [h4] at h9; cases h9), f3⟩
        refine StepsIn.cons rfl (fun g L w' hL hr hc hF => ?_) ?_
        · obtain ⟨f1, f2, f3⟩ := hF
          have h4 : L 4 = false := hc.not 4 3 rfl rfl (hc.not 3 1 rfl rfl hL)
          have hk9 := f1 h4
          refine StepIn.go rfl (fun K0 hK0 => ?_)
          go_simp
          exact hK0 g _ ⟨fun _ => hk9, fun h => (by have h9 : L 4 = true := h; rw [h4] at h9; cases h9), f3⟩
        refine StepsIn.cons rfl (fun g L w' hL hr hc hF => ?_) ?_
        · obtain ⟨f1, f2, f3⟩ := hF
          have h4 : L 4 = false := hc.not 4 3 rfl rfl (hc.not 3 2 rfl rfl hL)
          have hk9 := f1 h4
          refine StepIn.go rfl (fun K0 hK0 => ?_)
          go_simp
          exact hK0 g _ ⟨fun _ => hk9, fun h => (by have h9 : L 4 = true := h; rw [h4] at h9; cases h9), f3⟩
        refine StepsIn.cons rfl (fun g L w' hL hr hc hF => ?_) ?_
        · obtain ⟨f1, f2, f3⟩ := hF
          have h4 : L 4 = false := hc.not 4 3 rfl rfl hL
          have hk9 := f1 h4
          refine StepIn.go rfl (fun K0 hK0 => ?_)
          go_simp
          refine ⟨trivial, (callsIn_wide.2 (hwith _)).mono ?_⟩
          rintro e w5 ⟨rfl, hb5⟩
          exact hK0 g _ ⟨fun _ => hk9.next hb5, fun h => (by have h9 : L 4 = true := h; rw [h4] at h9; cases h9), f3⟩
        refine StepsIn.cons rfl (fun g L w' hL hr hc hF => ?_) ?_
        · obtain ⟨f1, f2, f3⟩ := hF
          have hk9 := f1 hL
          have e5 := hc.not 5 4 rfl rfl hL
          refine StepIn.go rfl (fun K0 hK0 => ?_)
          go_simp
          refine ⟨trivial, (callsIn_wide.2 (hrec _ hk9)).mono ?_⟩
          rintro e w5 ⟨b5, rfl, hp5⟩
          exact hK0 (b5, g.2) _ ⟨fun h => (by cases h), fun _ => hp5, fun h => (by have h' : L 5 = true := h; rw [e5] at h'; cases h')⟩
        refine StepsIn.cons rfl (fun g L w' hL hr hc hF => ?_) ?_
        · obtain ⟨f1, f2, f3⟩ := hF
          have h4 : L 4 = true := hr 4 rfl
          have hp5 := f2 h4
          refine StepIn.go rfl (fun K0 hK0 => ?_)
          go_simp
          exact hK0 (g.1, !g.1) _ ⟨fun h => (by have h9 : L 4 = false := h; rw [h4] at h9; cases h9), fun _ => hp5, fun _ => rfl⟩
        exact StepsIn.nil (by simp)
      case fin =>
      intro g L w9 hall hF
      obtain ⟨g1, g2⟩ := g
      obtain ⟨M', p1, p2, p3, p4, p5⟩ := hF.2.1 (hall 4 (by simp))
      have f3 := hF.2.2 (hall 5 (by simp))
      simp only at f3
      rcases p5 with ⟨e, p5⟩ | ⟨e, p5⟩
      · obtain rfl : g1 = true := by simpa using e
        obtain rfl : g2 = false := f3
        clear hF hall
        gi_wp2_with fail
        refine ⟨?rel, ?measure⟩
        case rel =>
          exact ⟨s + 1, M', by omega, by go_num, by rw [HG.out, List.length_append, Hkk.out]; exact p5, p4, p1, hh.trans2 p3 (fun r _ h => .inl h)⟩
        case measure => simp [intOf]; omega
      · obtain rfl : g1 = false := by simpa using e
        obtain rfl : g2 = true := f3
        clear hF hall
        gi_wp2_with fail
        refine bodyPost_ret (results_none Try.results63 _ _ _) rfl ?_
        exact ⟨⟨_, rfl⟩, M', fun r h => ⟨by have := (p1 r h).1; omega, (p1 r h).2⟩, .inr p5⟩
    · obtain rfl : s = n := by omega
      gi_wp2_with fail
      go_end0
      exact ⟨⟨_, rfl⟩, M, fun r h => ⟨by have := (hM r h).1; omega, (hM r h).2⟩, .inl hj⟩
end Go.Proofs.Ytngonghgkeobhaa
